import Derived.Test.YtkigpbkkhgabeaaGreatDoorYWrj
import Derived.Test.YtkigpbkkhgabeaaGreatDoorYWws
set_option linter.unusedVariables false
set_option linter.unusedSimpArgs false
namespace Go.Proofs.YtkigpbkkhgabeaaGreatDoor
open Go.RowKit Go.Lib
variable {L : List UInt8}
theorem up_key {nth p q : Nat} {t : ByteArray} (h : rKey nth L p = .ok t q) : p < q ∧ q ≤ L.length:=by
 unfold rKey at h
 obtain ⟨c,p1,h1,h2⟩:=bind_ok h
 have e1:=peek7 h1
 split at h2
 ·split at h2
  ·cases h2
  ·have:=up_text h2; omega
 ·cases h2
theorem need7 {f : UInt8 → Bool} {p q : Nat} {u : Unit} (h : rNeed f L p = .ok u q) : q = p + 1 ∧ p < L.length:=by
 unfold rNeed at h
 cases hx : L[p]? with
 | none => rw [hx] at h; cases h
 | some c =>
  rw [hx] at h
  simp only at h
  by_cases hf : f c = true
  ·rw [if_pos hf] at h; injection h with _ h; exact ⟨h.symm,(List.getElem?_eq_some_iff.1 hx).1⟩
  ·rw [if_neg hf] at h; cases h
def rLw4 (c : UInt8) : Rd1 VT :=
 if c == 34 then rAt rText fun t => rPure (.mk 4 false [] 0 t [] [])
 else if c == 110 then rAt (rWord [110,117,108,108]) fun _ => rPure (numT0 0)
 else if c == 102 then rAt (rWord [102,97,108,115,101]) fun _ => rPure (numT0 1)
 else if c == 116 then rAt (rWord [116,114,117,101]) fun _ => rPure (numT0 2)
 else rNumber
theorem up_items {α : Type} {end_ : UInt8} {item : Nat → Rd1 α} (hi : ∀ {n p a q},item n L p = .ok a q → p < q ∧ q ≤ L.length) :
  ∀ {n nth p q : Nat} {l : List α},rItemsF end_ item n nth L p = .ok l q → p < q ∧ q ≤ L.length
 | 0,nth,p,q,l,h => by cases h
 | n + 1,nth,p,q,l,h => by
  unfold rItemsF at h
  obtain ⟨x,p1,h1,h2⟩:=bind_ok h
  have e1:=peek7 h1
  split at h2
  ·injection h2 with _ h2; omega
  ·obtain ⟨u,p2,h3,h4⟩:=bind_ok h2
   have e3 : p1 ≤ p2 ∧ p2 ≤ L.length:=by
    split at h3
    ·obtain ⟨u3,p6,h11,h12⟩:=bind_ok h3
     have e11:=need7 h11
     have:=rSkips_ok7 h12
     have h6:=wsN_le (L:=L) (p:=p6) (by omega)
     unfold wsN at h6
     omega
    ·unfold rPure at h3; injection h3 with _ h3; omega
   obtain ⟨a,p3,h5,h6⟩:=bind_ok h4
   have e5:=hi h5
   obtain ⟨u2,p4,h7,h8⟩:=bind_ok h6
   have e7:=rSkips_ok7 h7
   have w7:=wsN_le (L:=L) (p:=p3) e5.2
   unfold wsN at w7
   obtain ⟨l',p5,h9,h10⟩:=bind_ok h8
   have e9:=up_items hi h9
   unfold rPure at h10
   injection h10 with _ h10
   omega
theorem up_number {p q : Nat} {a : VT} (h : rNumber L p = .ok a q) (hp : p ≤ L.length) : p < q ∧ q ≤ L.length:=by
 unfold rNumber at h
 cases h1 : rNumeral L p with
 | bad x y => rw [h1] at h; cases h
 | ok x r =>
  have a1:=up_numeral hp h1
  rw [h1] at h
  simp only [RR.bind] at h
  split at h
  ·cases h2 : rApart L r with
   | bad x y => rw [h2] at h; cases h
   | ok x r2 =>
    rw [h2] at h
    have a2 : r2 = r:=by
     unfold rApart at h2
     repeat' split at h2
     all_goals first | (injection h2 with _ h2; exact h2.symm) | cases h2
    injection h with _ h
    omega
  ·cases h
theorem up_low4 {c : UInt8} {p q : Nat} {a : VT} (h : rLw4 c L p = .ok a q) (hp : p ≤ L.length) : p < q ∧ q ≤ L.length:=by
 unfold rLw4 at h
 split at h
 ·obtain ⟨t,p1,h1,h2⟩:=bind_ok h
  have:=up_text h1
  unfold rPure at h2
  injection h2 with _ h2
  omega
 ·split at h
  ·obtain ⟨t,p1,h1,h2⟩:=bind_ok h
   have:=up_word h1 hp
   unfold rPure at h2
   injection h2 with _ h2
   simp only [List.length_cons,List.length_nil] at this
   omega
  ·split at h
   ·obtain ⟨t,p1,h1,h2⟩:=bind_ok h
    have:=up_word h1 hp
    unfold rPure at h2
    injection h2 with _ h2
    simp only [List.length_cons,List.length_nil] at this
    omega
   ·split at h
    ·obtain ⟨t,p1,h1,h2⟩:=bind_ok h
     have:=up_word h1 hp
     unfold rPure at h2
     injection h2 with _ h2
     simp only [List.length_cons,List.length_nil] at this
     omega
    ·exact up_number h hp
theorem up_value {mk : List (ByteArray × VT) → VT} : ∀ {k nth p q : Nat} {a : VT},rValue mk k nth L p = .ok a q → p < q ∧ q ≤ L.length
 | 0,nth,p,q,a,h => by
  unfold rValue at h
  obtain ⟨u,p1,h1,h2⟩:=bind_ok h
  have e1:=rBegin_ok h1
  obtain ⟨c,p2,h3,h4⟩:=bind_ok h2
  have e3:=peek7 h3
  have:=up_low4 (c:=c) h4 (by omega)
  omega
 | k + 1,nth,p,q,a,h => by
  unfold rValue at h
  obtain ⟨u,p1,h1,h2⟩:=bind_ok h
  have e1:=rBegin_ok h1
  obtain ⟨c,p2,h3,h4⟩:=bind_ok h2
  have e3:=peek7 h3
  have hh : ∀ {α : Type} {r : RR α} {f : α → VT} {s : Nat},(r.bind fun l q => rHeld p2 (f l) L q) = .ok a s → ∃ l,r = .ok l s:=fun {α r f s} hr => by
   cases r with
   | bad x y => cases hr
   | ok l t =>
    simp only [RR.bind,rHeld] at hr
    split at hr
    ·cases hr
    ·injection hr with _ hr; exact ⟨l,by rw [hr]⟩
  split at h4
  ·obtain ⟨l,h5⟩:=hh h4
   have h6:=rItems_ok h5
   have:=up_items (fun h => up_value h) h6
   have:=wsN_ge (L:=L) (p2 + 1)
   omega
  ·split at h4
   ·obtain ⟨l,h5⟩:=hh h4
    have h6:=rItems_ok h5
    have:=up_items (fun {n p a q} h => by
     obtain ⟨t,r1,g1,g⟩:=bind_ok h
     obtain ⟨u2,r2,g2,g⟩:=bind_ok g
     obtain ⟨u3,r3,g3,g⟩:=bind_ok g
     obtain ⟨u4,r4,g4,g⟩:=bind_ok g
     obtain ⟨v,r5,g5,g⟩:=bind_ok g
     unfold rPure at g
     injection g with _ g
     have a1:=up_key g1
     have a2:=rSkips_ok7 g2
     have a4:=rSkips_ok7 g4
     have a5:=up_value g5
     have a3:=need7 g3
     omega) h6
    have:=wsN_ge (L:=L) (p2 + 1)
    omega
   ·have:=up_low4 (c:=c) h4 (by omega)
    omega
end Go.Proofs.YtkigpbkkhgabeaaGreatDoor
namespace Go.Proofs.YtkigpbkkhgabeaaGreatDoor
open Go.RowKit Go.Lib
variable {B : Nat} {L : List UInt8} {A : Option Addr} {c rb : Nat}
def RVal (k : Nat) : Prop:=∀ (B : Nat) (L : List UInt8) (A : Option Addr) (c rb : Nat) (w : World) (p q : Nat) (a : VT) (d n nth : Nat),REnv B L A c rb w p → rValue mkObj k nth L p = .ok a q → k + d = 64 → n < 4096 →
 Calls Tryz.prog 52 #[.pointer (some ⟨rb,0,none⟩),.int .i64 (d : Int),.int .i64 (n : Int)] w (RvP B L A c rb q a w)
theorem list7_vin {N rs n lc : Nat} {l : List VT} {LA : Option Addr} {w w' : World} {M : Nat} (hG : Grow N (.slice LA n lc) l w) (hl : l.length = n) (hs : But (fun k => k = rs) w w') (hr : rs < N) (hM : M ≤ N) (h0 : l.length ≤ 4096) :
  VIn w' (fun b => M ≤ b ∧ b < w'.heap.size) (.mk 5 false [] 0 ⟨#[]⟩ l []) [.int .i64 5,.bool false,.slice none 0 0,.int .i64 0,.string ⟨#[]⟩,.slice LA n lc,.slice none 0 0]:=by
 obtain ⟨cs,h1,h2,h3⟩:=hG
 rw [hl] at h1 h2
 have hsz:=hs.size
 have hcap : n ≤ lc ∧ (0 < n → ∃ g,LA = some ⟨g,0,none⟩ ∧ N ≤ g ∧ g < w.heap.size):=by
  rcases h1.2 with ⟨e,e2⟩ | ⟨g,cap,cur,e,e2,e3,e4,-⟩
  ·injection e with e3 e4 e5
   exact ⟨by omega,fun h => by omega⟩
  ·injection e with e6 e7 e8
   subst e6 e8
   exact ⟨e4,fun _ => ⟨g,rfl,e2,(Array.getElem?_eq_some_iff.1 e3).1⟩⟩
 refine .mk (cs:=cs) (Rd.nil _ _ _) (by omega) (by show (0 : Nat) ≤ _; omega) ⟨rfl,fun h0 => absurd h0 (by omega)⟩ (by omega) hl (by omega) hcap.1 (fun hn => ?_) (fun i x hx => ?_)
 ·obtain ⟨g,rfl,hg1,hg2⟩:=hcap.2 hn
  refine ⟨g,0,rfl,⟨by omega,by omega⟩,fun i hi => ⟨h2 i hi,fun j hj => ?_⟩⟩
  have hx : (flatC cs id n)[i * 7 + j]? = (cs i)[j]?:=flatC_get (fun k hk => h2 k hk) i j hi hj
  have hu : ∃ u,(cs i)[j]? = some u:=⟨_,List.getElem?_eq_getElem (by rw [h2 i hi]; exact hj)⟩
  obtain ⟨u,hu⟩:=hu
  rw [hu] at hx ⊢
  have hc:=(ownsRow_cell h1 hx).1
  rw [Nat.zero_add]
  exact hs.cell_some hc (by show ¬ g = rs; omega)
 ·have hv:=h3 i x hx
  exact (hv.keep (w':=w') fun p hp => hs.cell (p:=p) hp.2.1 (by have:=hp.1; omega)).more fun b hb => ⟨by have:=hb.1; omega,by have:=hb.2.1; omega⟩
set_option maxRecDepth 4000000 in
set_option maxHeartbeats 8000000 in
theorem rlist7_c {k : Nat} (ih : RVal k) {w : World} {p q d : Nat} {l : List VT} (E : REnv B L A c rb w p) (h : rItems 93 (rValue mkObj k) L p = .ok l q) (hkd : k + d = 64) (hpl : p < L.length) :
    Calls Tryz.prog 80 #[.pointer (some ⟨rb, 0, none⟩), .int .i64 (d : Int)] w (RvP B L A c rb q (.mk 5 false [] 0 ⟨#[]⟩ l []) w) := by
  have hit := rItems_ok h
  have hws := wsN_le (L := L) (p := p + 1) (by omega)
  obtain ⟨x0, hx0, hcase⟩ := items_first hit
  clear h hit
  obtain ⟨rs, hrs⟩ : ∃ b, w.heap.size = b := ⟨_, rfl⟩
  have hrl := E.lt
  have hfit := E.fits
  have hb0 : But (fun k => k = rb) w ((w.alloc (.cells #[.int .i64 0, .bool false, .slice none 0 0, .int .i64 0, .string ⟨#[]⟩, .slice none 0 0, .slice none 0 0] 28)).alloc (.cells #[.int .i64 5, .bool false, .slice none 0 0, .int .i64 0, .string ⟨#[]⟩, .slice none 0 0, .slice none 0 0] 28)) := ((But.refl _ w).alloc _).alloc _
  have hE0 := E.stay (C := fun _ => False) (w' := ((w.alloc (.cells #[.int .i64 0, .bool false, .slice none 0 0, .int .i64 0, .string ⟨#[]⟩, .slice none 0 0, .slice none 0 0] 28)).alloc (.cells #[.int .i64 5, .bool false, .slice none 0 0, .int .i64 0, .string ⟨#[]⟩, .slice none 0 0, .slice none 0 0] 28))) (((But.refl _ w).alloc _).alloc _) (fun k h => h.elim)
  have hs1 : (w.alloc (.cells #[.int .i64 0, .bool false, .slice none 0 0, .int .i64 0, .string ⟨#[]⟩, .slice none 0 0, .slice none 0 0] 28)).heap.size = rs + 1 := by rw [World.size_alloc, hrs]
  have hs0 : ((w.alloc (.cells #[.int .i64 0, .bool false, .slice none 0 0, .int .i64 0, .string ⟨#[]⟩, .slice none 0 0, .slice none 0 0] 28)).alloc (.cells #[.int .i64 5, .bool false, .slice none 0 0, .int .i64 0, .string ⟨#[]⟩, .slice none 0 0, .slice none 0 0] 28)).heap.size = rs + 2 := by rw [World.size_alloc, hs1]
  have hm0 : ((w.alloc (.cells #[.int .i64 0, .bool false, .slice none 0 0, .int .i64 0, .string ⟨#[]⟩, .slice none 0 0, .slice none 0 0] 28)).alloc (.cells #[.int .i64 5, .bool false, .slice none 0 0, .int .i64 0, .string ⟨#[]⟩, .slice none 0 0, .slice none 0 0] 28)).heap[rs]? = some (.cells #[.int .i64 0, .bool false, .slice none 0 0, .int .i64 0, .string ⟨#[]⟩, .slice none 0 0, .slice none 0 0] 28) := by
    have h1 := World.alloc_heap_new w (.cells #[.int .i64 0, .bool false, .slice none 0 0, .int .i64 0, .string ⟨#[]⟩, .slice none 0 0, .slice none 0 0] 28)
    rw [hrs] at h1
    exact (((Below.refl _ (w.alloc (.cells #[.int .i64 0, .bool false, .slice none 0 0, .int .i64 0, .string ⟨#[]⟩, .slice none 0 0, .slice none 0 0] 28))).alloc (Nat.le_refl _) (.cells #[.int .i64 5, .bool false, .slice none 0 0, .int .i64 0, .string ⟨#[]⟩, .slice none 0 0, .slice none 0 0] 28)).block rs (by omega)).trans h1
  have ho0 : ((w.alloc (.cells #[.int .i64 0, .bool false, .slice none 0 0, .int .i64 0, .string ⟨#[]⟩, .slice none 0 0, .slice none 0 0] 28)).alloc (.cells #[.int .i64 5, .bool false, .slice none 0 0, .int .i64 0, .string ⟨#[]⟩, .slice none 0 0, .slice none 0 0] 28)).heap[rs + 1]? = some (.cells #[.int .i64 5, .bool false, .slice none 0 0, .int .i64 0, .string ⟨#[]⟩, .slice none 0 0, .slice none 0 0] 28) := by
    have h1 := World.alloc_heap_new (w.alloc (.cells #[.int .i64 0, .bool false, .slice none 0 0, .int .i64 0, .string ⟨#[]⟩, .slice none 0 0, .slice none 0 0] 28)) (.cells #[.int .i64 5, .bool false, .slice none 0 0, .int .i64 0, .string ⟨#[]⟩, .slice none 0 0, .slice none 0 0] 28)
    rw [hs1] at h1
    exact h1
  rw [hrs] at hrl
  have HM0 := Lib.hid hm0
  have HO0 := Lib.hid ho0
  have HB0 := Lib.hid hb0
  have HE0 := Lib.hid hE0
  have HS0 := Lib.hid hs0
  have HR := Lib.hid hrs
  have HC := Lib.hid hcase
  clear hm0 ho0 hb0 hE0 hs0 E hcase
  unfold RvP
  go_enter Tryz.func80, Tryz.ntmps80
  go_upto_region 2 with fail
  try rw [hs1]
  try rw [hrs]
  clear hrs hs1
  generalize ((w.alloc (.cells #[.int .i64 0, .bool false, .slice none 0 0, .int .i64 0, .string ⟨#[]⟩, .slice none 0 0, .slice none 0 0] 28)).alloc (.cells #[.int .i64 5, .bool false, .slice none 0 0, .int .i64 0, .string ⟨#[]⟩, .slice none 0 0, .slice none 0 0] 28)) = w0 at *
  obtain ⟨c0, c1, c2⟩ := HE0.out.cells
  have fz := HE0.out.frozen 1
  have hE1 := HE0.out.to (q := p + 1) (by omega)
  have hb1 : But (fun k => k = rb) w0 (w0.setCell ⟨rb, 1, none⟩ (.int .i64 ((p + 1 : Nat) : Int))) := But.setCell (C := fun k => k = rb) (p := ⟨rb, 1, none⟩) (But.refl _ w0) (.inl rfl) _
  rw [show ((p + 1 : Nat) : Int) = (p : Int) + 1 by omega] at hE1 hb1
  have HE1 := Lib.hid hE1
  have HB1 := Lib.hid hb1
  clear hE1 hb1
  go_wp2_with fail
  have hsp := rspc7_c HE1.out
  generalize (w0.setCell ⟨rb, 1, none⟩ (.int .i64 ((p : Int) + 1))) = w1 at *
  clear c0 c1 c2 fz
  refine hsp.mono ?_
  rintro e9 w2 ⟨⟨v9, rfl⟩, hE2, hb2⟩
  have hB2 := HB1.out.trans hb2
  have hE2' : REnv B L A c rb w2 (wsN L (p + 1)) := hE2
  have HE2 := Lib.hid hE2'
  have HB2 := Lib.hid hB2
  clear hsp hE2 hE2' hb2 hB2 HE1 HB1
  generalize wsN L (p + 1) = P0 at *
  go_wp2_with fail
  refine (rpeek_c HE2.out).mono ?_
  rintro e9 w3 ⟨rfl, hb3⟩
  have hnx : nxt L P0 = x0 := by unfold nxt; rw [hx0]; rfl
  have hPl : P0 < L.length := (List.getElem?_eq_some_iff.1 hx0).1
  rw [hnx]
  have hE3 := HE2.out.stay (C := fun _ => False) hb3 (fun k h => h.elim)
  have hB3 := HB2.out.trans (hb3.mono fun _ _ h => h.elim)
  have hm3 := (hB3.block rs (by rw [HS0.out]; omega) (by omega)).trans HM0.out
  have ho3 := (hB3.block (rs + 1) (by rw [HS0.out]; omega) (by omega)).trans HO0.out
  have hs3 : rs + 2 ≤ w3.heap.size := by have := hB3.size; rw [HS0.out] at this; exact this
  have HE3 := Lib.hid hE3
  have HB3 := Lib.hid (HB0.out.trans hB3)
  have HM3 := Lib.hid hm3
  have HO3 := Lib.hid ho3
  have HX0 := Lib.hid hx0
  clear hE3 hb3 hB3 hm3 ho3 HE2 HB2 hnx hx0 HM0 HO0 HE0 HB0 HS0
  rcases HC.out with ⟨rfl, rfl, rfl⟩ | ⟨hne, n0, hit⟩
  · obtain ⟨c0, c1, c2⟩ := HE3.out.cells
    have fz := HE3.out.frozen 1
    have hE4 := HE3.out.to (q := P0 + 1) (by omega)
    have hb4 : But (fun k => k = rb) w3 (w3.setCell ⟨rb, 1, none⟩ (.int .i64 ((P0 + 1 : Nat) : Int))) := But.setCell (C := fun k => k = rb) (p := ⟨rb, 1, none⟩) (But.refl _ w3) (.inl rfl) _
    rw [show ((P0 + 1 : Nat) : Int) = (P0 : Int) + 1 by omega] at hE4 hb4
    have hm4 := (hb4.block rs (by omega) (by omega)).trans HM3.out
    have ho4 := (hb4.block (rs + 1) (by omega) (by omega)).trans HO3.out
    have HEr := Lib.hid hE4
    have HBr := Lib.hid (HB3.out.trans hb4)
    have HMr := Lib.hid hm4
    have HOb := Lib.hid ho4
    have hs4 := hb4.size
    clear hE4 hb4 hm4 ho4
    go_upto_region 6 with fail
    generalize (w3.setCell ⟨rb, 1, none⟩ (.int .i64 ((P0 : Int) + 1))) = w4 at *
    clear c0 c1 c2 fz
    have HG : Hid (Grow (rs + 2) (.slice none 0 0) [] w4) := ⟨fun _ => [], ⟨rfl, .inl ⟨rfl, rfl⟩⟩, fun i hi => by simp at hi, fun i x hx => by simp at hx⟩
    have HLn : Hid (([] : List VT).length = 0) := rfl
    obtain ⟨y0, y1, y2, y3, y4, y5, y6⟩ := box7_of HMr.out
    obtain ⟨o0, o1, o2, o3, o4, o5, o6⟩ := box7_of HOb.out
    have fz : ∀ j, w4.frozen? ⟨rs, j, none⟩ = false := fun j => frozen_of_row w4 _ j _ _ HMr.out
    have hor : ¬ rs + 1 = rs := by omega
    go_wp2_with fail
    refine bodyPost_ret (v := .agg #[.int .i64 5, .bool false, .slice none 0 0, .int .i64 0, .string ⟨#[]⟩, .slice none 0 0, .slice none 0 0]) (by simp [results, Tryz.results80, go_sem, y0, y1, y2, y3, y4, y5, y6, o0, o1, o2, o3, o4, o5, o6]) rfl ?_
    have hs1 := put7_but (But.refl (fun k => k = rs) w4) (b := rs) (.inl rfl) (.int .i64 5) (.bool false) (.slice none 0 0) (.int .i64 0) (.string ⟨#[]⟩) (.slice none 0 0) (.slice none 0 0)
    have hs2 := put7_but HBr.out (b := rs) (.inr (Nat.le_of_eq HR.out)) (.int .i64 5) (.bool false) (.slice none 0 0) (.int .i64 0) (.string ⟨#[]⟩) (.slice none 0 0) (.slice none 0 0)
    generalize (((((((w4.setCell ⟨rs, 0, none⟩ (.int .i64 5)).setCell ⟨rs, 1, none⟩ (.bool false)).setCell ⟨rs, 2, none⟩ (.slice none 0 0)).setCell ⟨rs, 3, none⟩ (.int .i64 0)).setCell ⟨rs, 4, none⟩ (.string ⟨#[]⟩)).setCell ⟨rs, 5, none⟩ (.slice none 0 0)).setCell ⟨rs, 6, none⟩ (.slice none 0 0)) = w7 at *
    have hbase := HEr.out.base
    have hs7 := hs1.size
    have hrs9 := HR.out
    exact ⟨_, rfl, list7_vin HG.out HLn.out hs1 (by omega) (by omega) (by simp), HEr.out.stay hs1 (fun k hk => by omega), hs2⟩
  · have hne93 : ((x0.toNat : Int) == 93) = false := by
      rw [beq_eq_false_iff_ne]
      intro e
      exact hne (UInt8.toNat_inj.1 (by have : x0.toNat = 93 := by omega
                                       exact this))
    obtain ⟨c0, c1, c2⟩ := HE3.out.cells
    go_wp2_with fail
    clear hne93 c0 c1 c2
    go_loopw [] (fun wr => ∃ (pp n nth : Nat) (acc rest : List VT) (LA : Option Addr) (lc : Nat), Hid (ItAt 93 (rValue mkObj k) L n nth pp rest q) ∧ Hid (acc.length + 1 = nth) ∧ Hid (acc ++ rest = l) ∧ Hid (REnv B L A c rb wr pp) ∧ Hid (But (fun k => k = rb) w wr) ∧ Hid (wr.heap[rs]? = some (.cells #[.int .i64 0, .bool false, .slice none 0 0, .int .i64 0, .string ⟨#[]⟩, .slice none 0 0, .slice none 0 0] 28)) ∧ Hid (wr.heap[rs + 1]? = some (.cells #[.int .i64 5, .bool false, .slice none 0 0, .int .i64 0, .string ⟨#[]⟩, .slice LA acc.length lc, .slice none 0 0] 28)) ∧ Hid (Grow (rs + 2) (.slice LA acc.length lc) acc wr)) (fun wr => L.length - atO rb wr)
    case atStart => exact ⟨P0, n0, 1, [], l, none, 0, hit, rfl, rfl, HE3, HB3, HM3, HO3, ⟨fun _ => [], ⟨rfl, .inl ⟨rfl, rfl⟩⟩, fun i hi => by simp at hi, fun i x hx => by simp at hx⟩⟩
    case round =>
      clear HE3 HB3 HM3 HO3 hit hs3
      obtain ⟨pp, n, nth, acc, rest, LA, lc, HIT, HLN, HAC, HE, HB, HM, HO, HG⟩ := hrel
      obtain ⟨a, l', p1, hv, hrest, hre⟩ := HIT.out
      obtain ⟨hnth, hpp⟩ := rValue_nth hv
      have hup := (up_value hv).1
      have hp1 := up_value hv
      obtain ⟨ln, hln⟩ : ∃ ln, acc.length = ln := ⟨_, rfl⟩
      have hl1 := HLN.out
      have hln4 : ln < 4096 := by omega
      have hHO := HO.out
      have hHG := HG.out
      rw [hln] at hHO hHG hl1
      have hvv := fun V hV => ih B L A c rb V pp p1 a d ln nth hV hv hkd hln4
      have HVV := Lib.hid hvv
      have HRE := Lib.hid hre
      have HREST := Lib.hid hrest
      have HN1 := Lib.hid hl1
      have HAL := Lib.hid hln
      have HO2 := Lib.hid hHO
      have HG2 := Lib.hid hHG
      have hc5 : wr.cell? ⟨rs + 1, 5, none⟩ = some (.slice LA ln lc) := cell_at3 hHO rfl
      have HC5 := Lib.hid (show ∀ V, But (fun k => k = rb) wr V → V.cell? ⟨rs + 1, 5, none⟩ = some (.slice LA ln lc) from fun V hV => hV.cell_some hc5 (by show ¬ rs + 1 = rb; omega))
      obtain ⟨c0, c1, c2⟩ := HE.out.cells
      clear HIT HLN hre hrest hvv hv hHO hHG hl1 hln HO HG hc5
      go_upto_region 8 with fail
      refine wp_region_held_drew (S := fun _ => True) (by kernel_rfl) trivial (fun hHeld => ?_)
      (try simp only [List.size_toArray, List.length_cons, List.length_nil, Nat.reduceAdd, Array.replicate_succ, Array.replicate_zero, List.push_toArray, List.append_toArray, List.nil_append, List.cons_append])
      refine wpAnyH_take (i := 0) (oi := ⟨_, _, _, _, _, _⟩) (v := ?_) rfl (by kernel_rfl) (by kernel_rfl) (by kernel_rfl) (fun _ _ _ h => h) (Or.inl ⟨by rfl, ?_⟩) (by assumption) ?_
      rotate_left
      · intro w hSw
        (try dsimp only at hSw)
        go_split_ands
        go_simp
        try with_reducible rfl
      try simp only [Act.put, List.setIfInBounds_toArray, List.set_cons_zero, List.set_cons_succ]
      refine wpAnyH_take (i := 2) (oi := ⟨_, _, _, _, _, _⟩) (v := ?_) rfl (by kernel_rfl) (by kernel_rfl) (by kernel_rfl) (fun _ _ _ h => h) (Or.inl ⟨by rfl, ?_⟩) (by assumption) ?_
      rotate_left
      · intro w hSw
        (try dsimp only at hSw)
        go_split_ands
        go_simp
        try with_reducible rfl
      try simp only [Act.put, List.setIfInBounds_toArray, List.set_cons_zero, List.set_cons_succ]
      refine wpAnyH_take (i := 3) (oi := ⟨_, _, _, _, _, _⟩) (v := ?_) rfl (by kernel_rfl) (by kernel_rfl) (by kernel_rfl) (fun _ _ _ h => h) (Or.inl ⟨by rfl, ?_⟩) (by assumption) ?_
      rotate_left
      · intro w hSw
        (try dsimp only at hSw)
        go_split_ands
        go_simp
        try with_reducible rfl
      try simp only [Act.put, List.setIfInBounds_toArray, List.set_cons_zero, List.set_cons_succ]
      refine wpAnyH_take (i := 4) (oi := ⟨_, _, _, _, _, _⟩) (v := ?_) rfl (by kernel_rfl) (by kernel_rfl) (by kernel_rfl) (fun _ _ _ h => h) (Or.inl ⟨by rfl, ?_⟩) (by assumption) ?_
      rotate_left
      · intro w hSw
        (try dsimp only at hSw)
        go_split_ands
        go_simp
        try with_reducible rfl
      try simp only [Act.put, List.setIfInBounds_toArray, List.set_cons_zero, List.set_cons_succ]
      have hE0 := HE.out.stay (C := fun _ => False) (But.refl _ wr).drew (fun k h => h.elim)
      have hszW : rs + 2 ≤ wr.heap.size := by have := (Array.getElem?_eq_some_iff.1 HO2.out).1; omega
      refine li_app (N := rs + 2) (ob := rs + 1) (ln := ln) (lc := lc) (LA := LA) (d := d) (p1 := p1) (a := a) (acc := acc) (oa := ⟨_, _, _, _, _, _⟩) (ob1 := ⟨_, _, _, _, _, _⟩) (ob2 := ⟨_, _, _, _, _, _⟩) (ob3 := ⟨_, _, _, _, _, _⟩) (ob4 := ⟨_, _, _, _, _, _⟩) (oc1 := ⟨_, _, _, _, _, _⟩) (oc2 := ⟨_, _, _, _, _, _⟩) (oc3 := ⟨_, _, _, _, _, _⟩)
        (by kernel_rfl) rfl rfl rfl rfl rfl rfl rfl rfl rfl rfl rfl rfl rfl rfl rfl rfl rfl rfl rfl rfl rfl rfl rfl rfl rfl rfl rfl rfl rfl rfl rfl rfl (by kernel_rfl) (by kernel_rfl) (by kernel_rfl) (by kernel_rfl) (by kernel_rfl) (Nat.lt_of_lt_of_eq (by decide : 42 < 79) rfl) (by kernel_rfl) (by kernel_rfl) (by kernel_rfl) (by kernel_rfl)
        hE0 hszW (by omega) (by omega) (by omega) HAL.out HO2.out (HG2.out.keep (C := fun _ => False) (But.refl _ wr).drew (fun k h => h.elim)) (HVV.out _ hE0) ?_
      intro f w6 LA6 lc6 hb6 hE6 hob6 hG6
      simp only [putD, List.foldl_cons, List.foldl_nil, Act.put, List.setIfInBounds_toArray, List.set_cons_zero, List.set_cons_succ]
      generalize f 33 = u33
      generalize f 37 = u37
      generalize f 38 = u38
      generalize f 39 = u39
      generalize f 40 = u40
      generalize f 41 = u41
      generalize f 42 = u42
      have hrs9 := HR.out
      have hB6 : But (fun k => k = rb) w w6 := ⟨hb6.os.trans HB.out.os, hb6.tape.trans HB.out.tape, hb6.output.trans HB.out.output, Nat.le_trans HB.out.size hb6.size, fun k hk hc => (hb6.block k (Nat.lt_of_lt_of_le hk HB.out.size) (by omega)).trans (HB.out.block k hk hc)⟩
      have hm6 := (hb6.block rs (by show rs < wr.heap.size; omega) (by omega)).trans HM.out
      have hs6 : rs + 2 ≤ w6.heap.size := Nat.le_trans hszW hb6.size
      have hsp := rspc7_c hE6
      have HSP := Lib.hid hsp
      have HB6 := Lib.hid hB6
      have HM6 := Lib.hid hm6
      have HO6 := Lib.hid hob6
      have HG6 := Lib.hid hG6
      clear hE6 hsp hB6 hm6 hob6 hG6 hb6 hHeld hE0 c0 c1 c2
      go_wp2_with fail
      refine HSP.out.mono ?_
      rintro e9 w7 ⟨⟨v9, rfl⟩, hE7, hb7⟩
      have hE7' : REnv B L A c rb w7 (wsN L p1) := hE7
      have hws1 : p1 ≤ wsN L p1 := wsN_ge p1
      have hm7 := (hb7.block rs (by omega) (by omega)).trans HM6.out
      have ho7 := (hb7.block (rs + 1) (by omega) (by omega)).trans HO6.out
      have hG7 := HG6.out.keep hb7 (fun k hk => by omega)
      have hB7 := HB6.out.trans hb7
      have hs7 : rs + 2 ≤ w7.heap.size := Nat.le_trans hs6 hb7.size
      have HNX := Lib.hid (items_next (nth := nth + 1) (by have := HN1.out; omega) HREST.out)
      have HMR := Lib.hid hm7
      have HOR := Lib.hid ho7
      have HGR := Lib.hid hG7
      have HBR := Lib.hid hB7
      have HER := Lib.hid hE7'
      clear hE7 hE7' hm7 ho7 hG7 hB7 hb7 HSP HB6 HM6 HO6 HG6 HREST
      generalize wsN L p1 = P1 at *
      obtain ⟨c0, c1, c2⟩ := HER.out.cells
      go_wp2_with fail
      clear c0 c1 c2
      refine (rpeek_c HER.out).mono ?_
      rintro e9 w8 ⟨rfl, hb8⟩
      have hE8 := HER.out.stay (C := fun _ => False) hb8 (fun k h => h.elim)
      have hm8 := (hb8.block rs (by omega) (fun h => h)).trans HMR.out
      have ho8 := (hb8.block (rs + 1) (by omega) (fun h => h)).trans HOR.out
      have hG8 := HGR.out.keep hb8 (fun k hk => hk.elim)
      have hB8 := HBR.out.trans (hb8.mono fun _ _ h => h.elim)
      have hs8 : rs + 2 ≤ w8.heap.size := Nat.le_trans hs7 hb8.size
      have HM8 := Lib.hid hm8
      have HO8 := Lib.hid ho8
      have HG8 := Lib.hid hG8
      have HB8 := Lib.hid hB8
      have HE8 := Lib.hid hE8
      clear hE8 hm8 ho8 hG8 hB8 hb8 HMR HOR HGR HBR HER hs7
      rcases HNX.out with ⟨hx, rfl, rfl⟩ | ⟨hx, -, n', hit'⟩
      · have hnx : nxt L P1 = 93 := by unfold nxt; rw [hx]; rfl
        have hPl : P1 < L.length := (List.getElem?_eq_some_iff.1 hx).1
        rw [hnx]
        obtain ⟨c0, c1, c2⟩ := HE8.out.cells
        have fz := HE8.out.frozen 1
        have hE4 := HE8.out.to (q := P1 + 1) (by omega)
        have hb4 : But (fun k => k = rb) w8 (w8.setCell ⟨rb, 1, none⟩ (.int .i64 ((P1 + 1 : Nat) : Int))) := But.setCell (C := fun k => k = rb) (p := ⟨rb, 1, none⟩) (But.refl _ w8) (.inl rfl) _
        rw [show ((P1 + 1 : Nat) : Int) = (P1 : Int) + 1 by omega] at hE4 hb4
        have hm4 := (hb4.block rs (by omega) (by omega)).trans HM8.out
        have ho4 := (hb4.block (rs + 1) (by omega) (by omega)).trans HO8.out
        have hG4 := HG8.out.keep hb4 (fun k hk => by omega)
        have HEr := Lib.hid hE4
        have HBr := Lib.hid (HB8.out.trans hb4)
        have HMr := Lib.hid hm4
        have HOb := Lib.hid ho4
        have HG := Lib.hid hG4
        have hs4 := hb4.size
        have hll : l = acc ++ [a] := by rw [← HAC.out, HRE.out]
        have HLn : Hid (l.length = ln + 1) := by show _ = _; rw [hll, List.length_append, HAL.out]; rfl
        rw [← hll] at HG
        clear hE4 hb4 hm4 ho4 hG4 hnx
        go_upto_region 14 with fail
        generalize (w8.setCell ⟨rb, 1, none⟩ (.int .i64 ((P1 : Int) + 1))) = w4 at *
        clear c0 c1 c2 fz
        obtain ⟨y0, y1, y2, y3, y4, y5, y6⟩ := box7_of HMr.out
        obtain ⟨o0, o1, o2, o3, o4, o5, o6⟩ := box7_of HOb.out
        have fz : ∀ j, w4.frozen? ⟨rs, j, none⟩ = false := fun j => frozen_of_row w4 _ j _ _ HMr.out
        have hor : ¬ rs + 1 = rs := by omega
        go_wp2_with fail
        refine bodyPost_ret (v := .agg #[.int .i64 5, .bool false, .slice none 0 0, .int .i64 0, .string ⟨#[]⟩, .slice LA6 (ln + 1) lc6, .slice none 0 0]) (by simp [results, Tryz.results80, go_sem, y0, y1, y2, y3, y4, y5, y6, o0, o1, o2, o3, o4, o5, o6]) rfl ?_
        have hs1 := put7_but (But.refl (fun k => k = rs) w4) (b := rs) (.inl rfl) (.int .i64 5) (.bool false) (.slice none 0 0) (.int .i64 0) (.string ⟨#[]⟩) (.slice LA6 (ln + 1) lc6) (.slice none 0 0)
        have hs2 := put7_but HBr.out (b := rs) (.inr (Nat.le_of_eq HR.out)) (.int .i64 5) (.bool false) (.slice none 0 0) (.int .i64 0) (.string ⟨#[]⟩) (.slice LA6 (ln + 1) lc6) (.slice none 0 0)
        generalize (((((((w4.setCell ⟨rs, 0, none⟩ (.int .i64 5)).setCell ⟨rs, 1, none⟩ (.bool false)).setCell ⟨rs, 2, none⟩ (.slice none 0 0)).setCell ⟨rs, 3, none⟩ (.int .i64 0)).setCell ⟨rs, 4, none⟩ (.string ⟨#[]⟩)).setCell ⟨rs, 5, none⟩ (.slice LA6 (ln + 1) lc6)).setCell ⟨rs, 6, none⟩ (.slice none 0 0)) = w7 at *
        have hbase := HEr.out.base
        have hs7 := hs1.size
        have hrs9 := HR.out
        exact ⟨_, rfl, list7_vin HG.out HLn.out hs1 (by omega) (by omega) (by have := HLn.out; omega), HEr.out.stay hs1 (fun k hk => by omega), hs2⟩
      · have hnx : nxt L P1 = 44 := by unfold nxt; rw [hx]; rfl
        have hPl : P1 < L.length := (List.getElem?_eq_some_iff.1 hx).1
        have hpk := fun W (hW : REnv B L A c rb W P1) => rpeek_c hW
        rw [hnx] at hpk ⊢
        have HPK := Lib.hid hpk
        clear hpk hnx
        go_wp2_with fail
        refine (HPK.out _ HE8.out).mono ?_
        rintro e9 w9 ⟨rfl, hb9⟩
        have hE9 := HE8.out.stay (C := fun _ => False) hb9 (fun k h => h.elim)
        have hm9 := (hb9.block rs (by omega) (fun h => h)).trans HM8.out
        have ho9 := (hb9.block (rs + 1) (by omega) (fun h => h)).trans HO8.out
        have hG9 := HG8.out.keep hb9 (fun k hk => hk.elim)
        have hB9 := HB8.out.trans (hb9.mono fun _ _ h => h.elim)
        have hs9 : rs + 2 ≤ w9.heap.size := Nat.le_trans hs8 hb9.size
        obtain ⟨c0, c1, c2⟩ := hE9.cells
        have fz := hE9.frozen 1
        have hE4 := hE9.to (q := P1 + 1) (by omega)
        have hb4 : But (fun k => k = rb) w9 (w9.setCell ⟨rb, 1, none⟩ (.int .i64 ((P1 + 1 : Nat) : Int))) := But.setCell (C := fun k => k = rb) (p := ⟨rb, 1, none⟩) (But.refl _ w9) (.inl rfl) _
        rw [show ((P1 + 1 : Nat) : Int) = (P1 : Int) + 1 by omega] at hE4 hb4
        have hm4 := (hb4.block rs (by omega) (by omega)).trans hm9
        have ho4 := (hb4.block (rs + 1) (by omega) (by omega)).trans ho9
        have hG4 := hG9.keep hb4 (fun k hk => by omega)
        have hB4 := hB9.trans hb4
        have hs4 : rs + 2 ≤ (w9.setCell ⟨rb, 1, none⟩ (.int .i64 ((P1 : Int) + 1))).heap.size := Nat.le_trans hs9 hb4.size
        have HM4 := Lib.hid hm4
        have HO4 := Lib.hid ho4
        have HG4 := Lib.hid hG4
        have HB4 := Lib.hid hB4
        have HSP := Lib.hid (rspc7_c hE4)
        clear hm9 ho9 hG9 hB9 hE9 hb9 hm4 ho4 hG4 hB4 hE4 hb4
        go_wp2_with fail
        generalize (w9.setCell ⟨rb, 1, none⟩ (.int .i64 ((P1 : Int) + 1))) = w4 at *
        clear c0 c1 c2 fz
        refine HSP.out.mono ?_
        rintro e9 w5 ⟨⟨v9, rfl⟩, hE5, hb5⟩
        have hE5' : REnv B L A c rb w5 (wsN L (P1 + 1)) := hE5
        have hws2 : P1 + 1 ≤ wsN L (P1 + 1) := wsN_ge _
        have hws3 := wsN_le (L := L) (p := P1 + 1) (by omega)
        have hm5 := (hb5.block rs (by omega) (by omega)).trans HM4.out
        have ho5 := (hb5.block (rs + 1) (by omega) (by omega)).trans HO4.out
        have hG5 := HG4.out.keep hb5 (fun k hk => by omega)
        have hB5 := HB4.out.trans hb5
        have hat0 := HE.out.at_of
        have hat5 := hE5'.at_of
        go_wp2_with fail
        have hlen : (acc ++ [a]).length = ln + 1 := by rw [List.length_append, HAL.out]; rfl
        refine ⟨⟨wsN L (P1 + 1), n', nth + 1, acc ++ [a], l', LA6, lc6, hit', by show _ = _; rw [hlen]; have := HN1.out; omega, by show _ = _; rw [← HAC.out, HRE.out, List.append_assoc]; rfl, hE5', hB5, hm5, by show _ = _; rw [hlen]; exact ho5, by show Grow _ _ _ _; rw [hlen]; exact hG5⟩, ?_⟩
        rw [hat0, hat5]
        omega
end Go.Proofs.YtkigpbkkhgabeaaGreatDoor
