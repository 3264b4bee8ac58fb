import Derived.Test.YtkigpbkkhgabeaaGreatDoorYWoa
import Derived.Test.YtkigpbkkhgabeaaGreatDoorYWsl
set_option linter.unusedVariables false
set_option linter.unusedSimpArgs false
namespace Go.Proofs.YtkigpbkkhgabeaaGreatDoor
open Go.RowKit Go.Lib
variable {B : Nat} {L : List UInt8} {A : Option Addr} {c rb : Nat}
theorem rText_size7 {p q : Nat} {t : ByteArray} (h : rText L p = .ok t q) : t.size ≤ 16384:=by
 unfold rText at h
 cases h2 : rChars fuelR [] L (p + 1) with
 | bad a b => rw [h2] at h; simp [RR.bind] at h
 | ok t z =>
  rw [h2] at h
  simp only [RR.bind] at h
  split at h
  ·simp at h
  ·injection h with h3 h4
   subst h3
   show t.toArray.size ≤ 16384
   simp; omega
theorem two_filters {α : Type} (f g : α → Bool) (h : ∀ x,f x = true → g x = false) : ∀ l : List α,(l.filter f).length + (l.filter g).length ≤ l.length
 | [] => Nat.le_refl _
 | x :: l => by
  have ih:=two_filters f g h l
  cases hf : f x with
  | true =>
   rw [List.filter_cons_of_pos hf,List.filter_cons_of_neg (by rw [h x hf]; decide),List.length_cons,List.length_cons]
   omega
  | false =>
   rw [List.filter_cons_of_neg (by rw [hf]; decide),List.length_cons]
   have:=List.length_filter_le g (x :: l)
   cases hg : g x with
   | true => rw [List.filter_cons_of_pos hg,List.length_cons]; omega
   | false => rw [List.filter_cons_of_neg (by rw [hg]; decide)]; omega
theorem keysB_len7 (ks : List ByteArray) : (keysB ks).length ≤ ks.length:=by
 have h : ∀ n,n ≤ ks.length → (keysB (ks.take n)).length ≤ n:=by
  intro n
  induction n with
  | zero =>
   intro _
   rw [List.take_zero]
   cases hk : keysB [] with
   | nil => exact Nat.le_refl _
   | cons a t =>
    have : a ∈ keysB []:=by rw [hk]; exact List.mem_cons_self
    exact absurd (keysB_in this) (by simp)
  | succ n ih =>
   intro hn
   have ht : ks.take (n + 1) = ks.take n ++ [ks[n]]:=by rw [List.take_add_one,List.getElem?_eq_getElem (by omega)]; rfl
   rw [ht,keysB_snoc,List.length_append,List.length_cons]
   have h1:=ih (by omega)
   have h2:=two_filters (fun s : ByteArray => Go.Op.bytesLess s.toList ks[n].toList) (fun s => Go.Op.bytesLess ks[n].toList s.toList) (fun x hx => by
    rw [less_lt] at hx ⊢
    exact decide_eq_false (List.lt_asymm (of_decide_eq_true hx))) (keysB (ks.take n))
   omega
 have:=h ks.length (Nat.le_refl _)
 rwa [List.take_length] at this
theorem pairsOf_len (ks : List ByteArray) (l : List VT) : (pairsOf ks l).length ≤ ks.length:=by
 unfold pairsOf
 rw [List.length_map]
 exact keysB_len7 ks
theorem mkObj_nil7 : mkObj [] = .mk 6 false [] 0 ⟨#[]⟩ [] []:=by
 have h:=keysB_len7 []
 have h2 : keysB [] = []:=List.eq_nil_of_length_eq_zero (by simpa using h)
 unfold mkObj objV
 rw [List.map_nil,h2]
 rfl
theorem zero6_vin (w : World) (S : Nat → Prop) : VIn w S (mkObj []) [.int .i64 6,.bool false,.slice none 0 0,.int .i64 0,.string ⟨#[]⟩,.slice none 0 0,.slice none 0 0]:=by
 rw [mkObj_nil7]
 exact .mk (cs:=fun _ => []) (Rd.nil _ _ _) (by omega) (by show (0 : Nat) ≤ _; omega) ⟨rfl,fun h0 => absurd h0 (by omega)⟩ (by omega) rfl (by omega) (Nat.le_refl _) (fun h0 => absurd h0 (by omega)) (fun i x hi => by simp at hi)
set_option maxRecDepth 4000000 in
set_option maxHeartbeats 8000000 in
theorem robj7_c {k : Nat} (ih : RVal k) {w : World} {p q d : Nat} {l : List (ByteArray × VT)} (E : REnv B L A c rb w p) (h : rItems 125 (pairR k) L p = .ok l q) (hkd : k + d = 64) (hpl : p < L.length) :
    Calls Tryz.prog 81 #[.pointer (some ⟨rb, 0, none⟩), .int .i64 (d : Int)] w (RvP B L A c rb q (mkObj l) w) := by
  have hit := rItems_ok h
  have hws := wsN_le (L := L) (p := p + 1) (by omega)
  obtain ⟨x0, hx0, hcase⟩ := items_first hit
  clear h hit
  obtain ⟨rs, hrs⟩ : ∃ b, w.heap.size = b := ⟨_, rfl⟩
  have hrl := E.lt
  have hfit := E.fits
  have hb0 : But (fun k => k = rb) w ((w.alloc (.cells #[.int .i64 0, .bool false, .slice none 0 0, .int .i64 0, .string ⟨#[]⟩, .slice none 0 0, .slice none 0 0] 28)).alloc (.cells #[.int .i64 6, .bool false, .slice none 0 0, .int .i64 0, .string ⟨#[]⟩, .slice none 0 0, .slice none 0 0] 28)) := ((But.refl _ w).alloc _).alloc _
  have hE0 := E.stay (C := fun _ => False) (w' := ((w.alloc (.cells #[.int .i64 0, .bool false, .slice none 0 0, .int .i64 0, .string ⟨#[]⟩, .slice none 0 0, .slice none 0 0] 28)).alloc (.cells #[.int .i64 6, .bool false, .slice none 0 0, .int .i64 0, .string ⟨#[]⟩, .slice none 0 0, .slice none 0 0] 28))) (((But.refl _ w).alloc _).alloc _) (fun k h => h.elim)
  have hs1 : (w.alloc (.cells #[.int .i64 0, .bool false, .slice none 0 0, .int .i64 0, .string ⟨#[]⟩, .slice none 0 0, .slice none 0 0] 28)).heap.size = rs + 1 := by rw [World.size_alloc, hrs]
  have hs0 : ((w.alloc (.cells #[.int .i64 0, .bool false, .slice none 0 0, .int .i64 0, .string ⟨#[]⟩, .slice none 0 0, .slice none 0 0] 28)).alloc (.cells #[.int .i64 6, .bool false, .slice none 0 0, .int .i64 0, .string ⟨#[]⟩, .slice none 0 0, .slice none 0 0] 28)).heap.size = rs + 2 := by rw [World.size_alloc, hs1]
  have hm0 : ((w.alloc (.cells #[.int .i64 0, .bool false, .slice none 0 0, .int .i64 0, .string ⟨#[]⟩, .slice none 0 0, .slice none 0 0] 28)).alloc (.cells #[.int .i64 6, .bool false, .slice none 0 0, .int .i64 0, .string ⟨#[]⟩, .slice none 0 0, .slice none 0 0] 28)).heap[rs]? = some (.cells #[.int .i64 0, .bool false, .slice none 0 0, .int .i64 0, .string ⟨#[]⟩, .slice none 0 0, .slice none 0 0] 28) := by
    have h1 := World.alloc_heap_new w (.cells #[.int .i64 0, .bool false, .slice none 0 0, .int .i64 0, .string ⟨#[]⟩, .slice none 0 0, .slice none 0 0] 28)
    rw [hrs] at h1
    exact (((Below.refl _ (w.alloc (.cells #[.int .i64 0, .bool false, .slice none 0 0, .int .i64 0, .string ⟨#[]⟩, .slice none 0 0, .slice none 0 0] 28))).alloc (Nat.le_refl _) (.cells #[.int .i64 6, .bool false, .slice none 0 0, .int .i64 0, .string ⟨#[]⟩, .slice none 0 0, .slice none 0 0] 28)).block rs (by omega)).trans h1
  have ho0 : ((w.alloc (.cells #[.int .i64 0, .bool false, .slice none 0 0, .int .i64 0, .string ⟨#[]⟩, .slice none 0 0, .slice none 0 0] 28)).alloc (.cells #[.int .i64 6, .bool false, .slice none 0 0, .int .i64 0, .string ⟨#[]⟩, .slice none 0 0, .slice none 0 0] 28)).heap[rs + 1]? = some (.cells #[.int .i64 6, .bool false, .slice none 0 0, .int .i64 0, .string ⟨#[]⟩, .slice none 0 0, .slice none 0 0] 28) := by
    have h1 := World.alloc_heap_new (w.alloc (.cells #[.int .i64 0, .bool false, .slice none 0 0, .int .i64 0, .string ⟨#[]⟩, .slice none 0 0, .slice none 0 0] 28)) (.cells #[.int .i64 6, .bool false, .slice none 0 0, .int .i64 0, .string ⟨#[]⟩, .slice none 0 0, .slice none 0 0] 28)
    rw [hs1] at h1
    exact h1
  rw [hrs] at hrl
  have HM0 := Lib.hid hm0
  have HO0 := Lib.hid ho0
  have HB0 := Lib.hid hb0
  have HE0 := Lib.hid hE0
  have HS0 := Lib.hid hs0
  have HR := Lib.hid hrs
  have HC := Lib.hid hcase
  clear hm0 ho0 hb0 hE0 hs0 E hcase
  unfold RvP
  go_enter Tryz.func81, Tryz.ntmps81
  go_upto_region 2 with fail
  try rw [hs1]
  try rw [hrs]
  clear hrs hs1
  generalize ((w.alloc (.cells #[.int .i64 0, .bool false, .slice none 0 0, .int .i64 0, .string ⟨#[]⟩, .slice none 0 0, .slice none 0 0] 28)).alloc (.cells #[.int .i64 6, .bool false, .slice none 0 0, .int .i64 0, .string ⟨#[]⟩, .slice none 0 0, .slice none 0 0] 28)) = w0 at *
  obtain ⟨c0, c1, c2⟩ := HE0.out.cells
  have fz := HE0.out.frozen 1
  have hE1 := HE0.out.to (q := p + 1) (by omega)
  have hb1 : But (fun k => k = rb) w0 (w0.setCell ⟨rb, 1, none⟩ (.int .i64 ((p + 1 : Nat) : Int))) := But.setCell (C := fun k => k = rb) (p := ⟨rb, 1, none⟩) (But.refl _ w0) (.inl rfl) _
  rw [show ((p + 1 : Nat) : Int) = (p : Int) + 1 by omega] at hE1 hb1
  have HE1 := Lib.hid hE1
  have HB1 := Lib.hid hb1
  clear hE1 hb1
  go_wp2_with fail
  have hsp := rspc7_c HE1.out
  generalize (w0.setCell ⟨rb, 1, none⟩ (.int .i64 ((p : Int) + 1))) = w1 at *
  clear c0 c1 c2 fz
  refine hsp.mono ?_
  rintro e9 w2 ⟨⟨v9, rfl⟩, hE2, hb2⟩
  have hB2 := HB1.out.trans hb2
  have hE2' : REnv B L A c rb w2 (wsN L (p + 1)) := hE2
  have HE2 := Lib.hid hE2'
  have HB2 := Lib.hid hB2
  clear hsp hE2 hE2' hb2 hB2 HE1 HB1
  generalize wsN L (p + 1) = P0 at *
  go_wp2_with fail
  refine (rpeek_c HE2.out).mono ?_
  rintro e9 w3 ⟨rfl, hb3⟩
  have hnx : nxt L P0 = x0 := by unfold nxt; rw [hx0]; rfl
  have hPl : P0 < L.length := (List.getElem?_eq_some_iff.1 hx0).1
  rw [hnx]
  have hE3 := HE2.out.stay (C := fun _ => False) hb3 (fun k h => h.elim)
  have hB3 := HB2.out.trans (hb3.mono fun _ _ h => h.elim)
  have hm3 := (hB3.block rs (by rw [HS0.out]; omega) (by omega)).trans HM0.out
  have ho3 := (hB3.block (rs + 1) (by rw [HS0.out]; omega) (by omega)).trans HO0.out
  have hs3 : rs + 2 ≤ w3.heap.size := by have := hB3.size; rw [HS0.out] at this; exact this
  have HE3 := Lib.hid hE3
  have HB3 := Lib.hid (HB0.out.trans hB3)
  have HM3 := Lib.hid hm3
  have HO3 := Lib.hid ho3
  have HX0 := Lib.hid hx0
  clear hE3 hb3 hB3 hm3 ho3 HE2 HB2 hnx hx0 HM0 HO0 HE0 HB0 HS0
  rcases HC.out with ⟨rfl, rfl, rfl⟩ | ⟨hne, n0, hit⟩
  · obtain ⟨c0, c1, c2⟩ := HE3.out.cells
    have fz := HE3.out.frozen 1
    have hE4 := HE3.out.to (q := P0 + 1) (by omega)
    have hb4 : But (fun k => k = rb) w3 (w3.setCell ⟨rb, 1, none⟩ (.int .i64 ((P0 + 1 : Nat) : Int))) := But.setCell (C := fun k => k = rb) (p := ⟨rb, 1, none⟩) (But.refl _ w3) (.inl rfl) _
    rw [show ((P0 + 1 : Nat) : Int) = (P0 : Int) + 1 by omega] at hE4 hb4
    have hm4 := (hb4.block rs (by omega) (by omega)).trans HM3.out
    have ho4 := (hb4.block (rs + 1) (by omega) (by omega)).trans HO3.out
    have HEr := Lib.hid hE4
    have HBr := Lib.hid (HB3.out.trans hb4)
    have HMr := Lib.hid hm4
    have HOb := Lib.hid ho4
    have hs4 := hb4.size
    clear hE4 hb4 hm4 ho4
    go_upto_region 6 with fail
    generalize (w3.setCell ⟨rb, 1, none⟩ (.int .i64 ((P0 : Int) + 1))) = w4 at *
    clear c0 c1 c2 fz
    obtain ⟨y0, y1, y2, y3, y4, y5, y6⟩ := box7_of HMr.out
    obtain ⟨o0, o1, o2, o3, o4, o5, o6⟩ := box7_of HOb.out
    have fz : ∀ j, w4.frozen? ⟨rs, j, none⟩ = false := fun j => frozen_of_row w4 _ j _ _ HMr.out
    have hor : ¬ rs + 1 = rs := by omega
    go_wp2_with fail
    refine bodyPost_ret (v := .agg #[.int .i64 6, .bool false, .slice none 0 0, .int .i64 0, .string ⟨#[]⟩, .slice none 0 0, .slice none 0 0]) (by simp [results, Tryz.results81, go_sem, y0, y1, y2, y3, y4, y5, y6, o0, o1, o2, o3, o4, o5, o6]) rfl ?_
    have hs1 := put7_but (But.refl (fun k => k = rs) w4) (b := rs) (.inl rfl) (.int .i64 6) (.bool false) (.slice none 0 0) (.int .i64 0) (.string ⟨#[]⟩) (.slice none 0 0) (.slice none 0 0)
    have hs2 := put7_but HBr.out (b := rs) (.inr (Nat.le_of_eq HR.out)) (.int .i64 6) (.bool false) (.slice none 0 0) (.int .i64 0) (.string ⟨#[]⟩) (.slice none 0 0) (.slice none 0 0)
    generalize (((((((w4.setCell ⟨rs, 0, none⟩ (.int .i64 6)).setCell ⟨rs, 1, none⟩ (.bool false)).setCell ⟨rs, 2, none⟩ (.slice none 0 0)).setCell ⟨rs, 3, none⟩ (.int .i64 0)).setCell ⟨rs, 4, none⟩ (.string ⟨#[]⟩)).setCell ⟨rs, 5, none⟩ (.slice none 0 0)).setCell ⟨rs, 6, none⟩ (.slice none 0 0)) = w7 at *
    have hbase := HEr.out.base
    have hs7 := hs1.size
    have hrs9 := HR.out
    exact ⟨_, rfl, ((zero6_vin w4 (fun b => rs + 2 ≤ b ∧ b < w4.heap.size)).keep (w' := w7) fun p hp => hs1.cell (p := p) hp.2 (by have := hp.1; omega)).more fun b h => ⟨by omega, by omega⟩, HEr.out.stay hs1 (fun k hk => by omega), hs2⟩
  · have hne93 : ((x0.toNat : Int) == 125) = false := by
      rw [beq_eq_false_iff_ne]
      intro e
      exact hne (UInt8.toNat_inj.1 (by have : x0.toNat = 125 := by omega
                                       exact this))
    obtain ⟨c0, c1, c2⟩ := HE3.out.cells
    go_wp2_with fail
    clear hne93 c0 c1 c2
    go_loopw [6] (fun iv wr => ∃ (pp n nth : Nat) (acc rest : List (ByteArray × VT)) (A1 LA KA : Option Addr) (n1 c1 ln lc kn kc : Nat), iv = .int .i64 (acc.length : Int) ∧ Hid (ItAt 125 (pairR k) L n nth pp rest q) ∧ Hid (acc.length + 1 = nth) ∧ Hid (acc ++ rest = l) ∧ Hid (REnv B L A c rb wr pp) ∧ Hid (But (fun k => k = rb) w wr) ∧ Hid (wr.heap[rs]? = some (.cells #[.int .i64 0, .bool false, .slice none 0 0, .int .i64 0, .string ⟨#[]⟩, .slice none 0 0, .slice none 0 0] 28)) ∧ Hid (wr.heap[rs + 1]? = some (.cells #[.int .i64 6, .bool false, .slice A1 n1 c1, .int .i64 0, .string ⟨#[]⟩, .slice LA ln lc, .slice KA kn kc] 28)) ∧ Hid (VIn wr (fun b => rs + 2 ≤ b ∧ b < wr.heap.size) (mkObj acc) [.int .i64 6, .bool false, .slice A1 n1 c1, .int .i64 0, .string ⟨#[]⟩, .slice LA ln lc, .slice KA kn kc])) (fun _ wr => L.length - atO rb wr)
    case atStart => exact ⟨P0, n0, 1, [], l, none, none, none, 0, 0, 0, 0, 0, 0, rfl, hit, rfl, rfl, HE3, HB3, HM3, HO3, zero6_vin _ _⟩
    case round =>
      clear HE3 HB3 HM3 HO3 hit hs3
      obtain ⟨pp, n, nth, acc, rest, A1, LA, KA, n1, c1', ln, lc, kn, kc, rfl, HIT, HLN, HAC, HE, HB, HM, HO, HV⟩ := hrel
      obtain ⟨a, l', p1, hv, hrest, hre⟩ := HIT.out
      obtain ⟨p2, hq34, hn4, htx, h58, hvv⟩ := pairR_ok hv
      have hks := rText_size7 htx
      have hpl58 := (List.getElem?_eq_some_iff.1 h58).1
      have hpp := (List.getElem?_eq_some_iff.1 hq34).1
      have hp2 : p2 ≤ wsN L p2 := wsN_ge p2
      have hup2 := (up_text htx).1
      have hw3a := wsN_le (L := L) (p := wsN L p2 + 1) (by omega)
      have hw3b : wsN L p2 + 1 ≤ wsN L (wsN L p2 + 1) := wsN_ge _
      obtain ⟨-, hpv⟩ := rValue_nth hvv
      have hup := (up_value hvv).1
      have hp1 := up_value hvv
      obtain ⟨ln0, hln⟩ : ∃ ln0, acc.length = ln0 := ⟨_, rfl⟩
      have hl1 := HLN.out
      rw [hln] at hl1
      have hln4 : ((ln0 : Int) == 4096) = false := by rw [beq_eq_false_iff_ne]; omega
      have hvc := fun V hV => ih B L A c rb V (wsN L (wsN L p2 + 1)) p1 a.2 d 0 nth hV hvv hkd (by omega)
      have HVV := Lib.hid hvc
      have HRE := Lib.hid hre
      have HREST := Lib.hid hrest
      have HN1 := Lib.hid hl1
      have HAL := Lib.hid hln
      have hnx : nxt L pp = 34 := by unfold nxt; rw [hq34]; rfl
      have hnx58 : nxt L (wsN L p2) = 58 := by unfold nxt; rw [h58]; rfl
      have htc := fun W (hW : REnv B L A c rb W pp) => rtext7_c hW htx hpp (by omega)
      have HTC := Lib.hid htc
      have hpk := rpeek_c HE.out
      have hp58 := fun W (hW : REnv B L A c rb W (wsN L p2)) => rpeek_c hW
      rw [hnx] at hpk
      rw [hnx58] at hp58
      have HPK := Lib.hid hpk
      have HP58 := Lib.hid hp58
      have hszW : rs + 2 ≤ wr.heap.size := by have := (Array.getElem?_eq_some_iff.1 HO.out).1; omega
      rw [hln]
      obtain ⟨c0, c1, c2⟩ := HE.out.cells
      clear HIT HLN hre hrest hvc hv hvv hl1 hln hpk hp58 hnx hnx58 htc htx h58 hq34
      go_wp2_with fail
      clear c0 c1 c2
      refine HPK.out.mono ?_
      rintro e9 w4 ⟨rfl, hb4⟩
      have hE4 := HE.out.stay (C := fun _ => False) hb4 (fun k h => h.elim)
      have HB4 := Lib.hid (hb4.mono (D := fun k => k = rb) fun _ _ h => h.elim)
      have htc4 := HTC.out w4 hE4
      have HT4 := Lib.hid htc4
      clear htc4 hE4 hb4 HPK HTC
      go_wp2_with fail
      refine HT4.out.mono ?_
      rintro e9 w5 ⟨rfl, hE5, hb5⟩
      have HB5 := Lib.hid (HB4.out.trans hb5)
      have HSP := Lib.hid (rspc7_c hE5)
      clear hE5 hb5 HT4 HB4
      go_wp2_with fail
      refine HSP.out.mono ?_
      rintro e9 w6 ⟨⟨v9, rfl⟩, hE6, hb6⟩
      have hE6' : REnv B L A c rb w6 (wsN L p2) := hE6
      have HB6 := Lib.hid (HB5.out.trans hb6)
      have HE6 := Lib.hid hE6'
      clear hE6 hE6' hb6 HSP HB5
      obtain ⟨c0, c1, c2⟩ := HE6.out.cells
      go_wp2_with fail
      clear c0 c1 c2
      refine (HP58.out w6 HE6.out).mono ?_
      rintro e9 w7 ⟨rfl, hb7⟩
      have hE7 := HE6.out.stay (C := fun _ => False) hb7 (fun k h => h.elim)
      obtain ⟨c0, c1, c2⟩ := hE7.cells
      have fz := hE7.frozen 1
      have hE8 := hE7.to (q := wsN L p2 + 1) (by omega)
      have hb8 : But (fun k => k = rb) w7 (w7.setCell ⟨rb, 1, none⟩ (.int .i64 ((wsN L p2 + 1 : Nat) : Int))) := But.setCell (C := fun k => k = rb) (p := ⟨rb, 1, none⟩) (But.refl _ w7) (.inl rfl) _
      rw [show ((wsN L p2 + 1 : Nat) : Int) = (wsN L p2 : Int) + 1 by omega] at hE8 hb8
      have HB8 := Lib.hid ((HB6.out.trans (hb7.mono fun _ _ h => h.elim)).trans hb8)
      have HS8 := Lib.hid (rspc7_c hE8)
      clear hE7 hE8 hb8 hb7 HB6 HE6
      generalize wsN L p2 = W2 at *
      go_wp2_with fail
      generalize (w7.setCell ⟨rb, 1, none⟩ (.int .i64 ((W2 : Int) + 1))) = w8 at *
      clear c0 c1 c2 fz
      refine HS8.out.mono ?_
      rintro e9 w9 ⟨⟨v9, rfl⟩, hE9, hb9⟩
      have hE9' : REnv B L A c rb w9 (wsN L (W2 + 1)) := hE9
      have hB9 := HB8.out.trans hb9
      have hm9 := (hB9.block rs (by omega) (by omega)).trans HM.out
      have ho9 := (hB9.block (rs + 1) (by omega) (by omega)).trans HO.out
      have hv9 := (HV.out.keep (w' := w9) fun p hp => hB9.cell (p := p) hp.2 (by have := hp.1; omega)).more (S' := fun b => rs + 2 ≤ b ∧ b < w9.heap.size) fun b h => ⟨h.1, Nat.lt_of_lt_of_le h.2 hB9.size⟩
      have hs9 : rs + 2 ≤ w9.heap.size := Nat.le_trans hszW hB9.size
      have HM9 := Lib.hid hm9
      have HO9 := Lib.hid ho9
      have HB9 := Lib.hid (HB.out.trans hB9)
      have HV9 := Lib.hid hv9
      have HE9 := Lib.hid hE9'
      clear hE9 hE9' hB9 hb9 hm9 ho9 hv9 HS8 HB8
      generalize wsN L (W2 + 1) = P3 at *
      go_upto_region 24 with fail
      refine wp_region_held_drew (S := fun _ => True) (by kernel_rfl) trivial (fun hHeld => ?_)
      (try simp only [List.size_toArray, List.length_cons, List.length_nil, Nat.reduceAdd, Array.replicate_succ, Array.replicate_zero, List.push_toArray, List.append_toArray, List.nil_append, List.cons_append])
      refine wpAnyH_take (i := 1) (oi := ⟨_, _, _, _, _, _⟩) (v := ?_) rfl (by kernel_rfl) (by kernel_rfl) (by kernel_rfl) (fun _ _ _ h => h) (Or.inl ⟨by rfl, ?_⟩) (by assumption) ?_
      rotate_left
      · intro w hSw
        (try dsimp only at hSw)
        go_split_ands
        go_simp
        try with_reducible rfl
      try simp only [Act.put, List.setIfInBounds_toArray, List.set_cons_zero, List.set_cons_succ]
      refine wpAnyH_take (i := 2) (oi := ⟨_, _, _, _, _, _⟩) (v := ?_) rfl (by kernel_rfl) (by kernel_rfl) (by kernel_rfl) (fun _ _ _ h => h) (Or.inl ⟨by rfl, ?_⟩) (by assumption) ?_
      rotate_left
      · intro w hSw
        (try dsimp only at hSw)
        go_split_ands
        go_simp
        try with_reducible rfl
      try simp only [Act.put, List.setIfInBounds_toArray, List.set_cons_zero, List.set_cons_succ]
      refine wpAnyH_take (i := 3) (oi := ⟨_, _, _, _, _, _⟩) (v := ?_) rfl (by kernel_rfl) (by kernel_rfl) (by kernel_rfl) (fun _ _ _ h => h) (Or.inl ⟨by rfl, ?_⟩) (by assumption) ?_
      rotate_left
      · intro w hSw
        (try dsimp only at hSw)
        go_split_ands
        go_simp
        try with_reducible rfl
      try simp only [Act.put, List.setIfInBounds_toArray, List.set_cons_zero, List.set_cons_succ]
      have hE0 := HE9.out.stay (C := fun _ => False) (But.refl _ w9).drew (fun k h => h.elim)
      have hmk : mkObj acc = objP (pairsOf (acc.map (·.1)) (acc.map (·.2))) := by unfold mkObj; rw [objV_pairs]
      have hPl9 : (pairsOf (acc.map (·.1)) (acc.map (·.2))).length ≤ 5000 := by
        have := pairsOf_len (acc.map (·.1)) (acc.map (·.2))
        rw [List.length_map, HAL.out] at this
        have := HN1.out
        omega
      have hv9 := HV9.out
      rw [hmk] at hv9
      have hv9d : VIn w9.drew (fun b => rs + 2 ≤ b ∧ b < w9.drew.heap.size) (objP (pairsOf (acc.map (·.1)) (acc.map (·.2)))) _ := hv9.keep fun p _ => rfl
      refine ob_app (N := rs + 2) (ob := rs + 1) (pp := 0) (d := d) (p1 := p1) (v := a.2) (key := a.1) (P := pairsOf (acc.map (fun x => x.1)) (acc.map (fun x => x.2))) (o0 := ⟨_, _, _, _, _, _⟩) (o4 := ⟨_, _, _, _, _, _⟩) (o5 := ⟨_, _, _, _, _, _⟩) (o6 := ⟨_, _, _, _, _, _⟩)
        (by kernel_rfl) rfl rfl rfl rfl rfl rfl rfl rfl rfl rfl rfl rfl rfl rfl rfl rfl (by kernel_rfl) (by kernel_rfl) (by kernel_rfl) (by kernel_rfl) (Nat.lt_of_lt_of_eq (by decide : 89 < 126) rfl) (by kernel_rfl) (by kernel_rfl) (by kernel_rfl)
        hs9 (by omega) (by omega) hPl9 (by omega) HO9.out hv9d (HVV.out _ hE0) ?_
      intro f w10 n2 c2 ln2 lc2 kn2 kc2 A2 LA2 KA2 hb10 hE10 hob10 hv10
      simp only [putD, List.foldl_cons, List.foldl_nil, Act.put, List.setIfInBounds_toArray, List.set_cons_zero, List.set_cons_succ]
      generalize f 84 = u84
      generalize f 88 = u88
      generalize f 89 = u89
      have hrs9 := HR.out
      have hB6 : But (fun k => k = rb) w w10 := ⟨hb10.os.trans HB9.out.os, hb10.tape.trans HB9.out.tape, hb10.output.trans HB9.out.output, Nat.le_trans HB9.out.size hb10.size, fun k hk hc => (hb10.block k (Nat.lt_of_lt_of_le hk HB9.out.size) (by omega)).trans (HB9.out.block k hk hc)⟩
      have hm6 := (hb10.block rs (by show rs < w9.heap.size; omega) (by omega)).trans HM9.out
      have hs6 : rs + 2 ≤ w10.heap.size := Nat.le_trans hs9 hb10.size
      have hmk2 : mkObj (acc ++ [a]) = objP (withP a.1 a.2 (pairsOf (acc.map (fun x => x.1)) (acc.map (fun x => x.2)))) := mkObj_snoc acc a.1 a.2
      rw [← hmk2] at hv10
      have hsp := rspc7_c hE10
      have HSP := Lib.hid hsp
      have HB6 := Lib.hid hB6
      have HM6 := Lib.hid hm6
      have HO6 := Lib.hid hob10
      have HG6 := Lib.hid hv10
      clear hE10 hsp hB6 hm6 hob10 hv10 hb10 hHeld hE0 hmk hmk2 hPl9 hv9 hv9d HM9 HO9 HB9 HV9 HE9
      go_wp2_with fail
      refine HSP.out.mono ?_
      rintro e9 w7 ⟨⟨v9, rfl⟩, hE7, hb7⟩
      have hE7' : REnv B L A c rb w7 (wsN L p1) := hE7
      have hws1 : p1 ≤ wsN L p1 := wsN_ge p1
      have hm7 := (hb7.block rs (by omega) (by omega)).trans HM6.out
      have ho7 := (hb7.block (rs + 1) (by omega) (by omega)).trans HO6.out
      have hG7 := (HG6.out.keep (w' := w7) fun p hp => hb7.cell (p := p) hp.2 (by have := hp.1; omega)).more (S' := fun b => rs + 2 ≤ b ∧ b < w7.heap.size) fun b h => ⟨h.1, Nat.lt_of_lt_of_le h.2 hb7.size⟩
      have hB7 := HB6.out.trans hb7
      have hs7 : rs + 2 ≤ w7.heap.size := Nat.le_trans hs6 hb7.size
      have HNX := Lib.hid (items_next (nth := nth + 1) (by have := HN1.out; omega) HREST.out)
      have HMR := Lib.hid hm7
      have HOR := Lib.hid ho7
      have HGR := Lib.hid hG7
      have HBR := Lib.hid hB7
      have HER := Lib.hid hE7'
      clear hE7 hE7' hm7 ho7 hG7 hB7 hb7 HSP HB6 HM6 HO6 HG6 HREST
      generalize wsN L p1 = P1 at *
      obtain ⟨c0, c1, c2⟩ := HER.out.cells
      go_wp2_with fail
      clear c0 c1 c2
      refine (rpeek_c HER.out).mono ?_
      rintro e9 w8 ⟨rfl, hb8⟩
      have hE8 := HER.out.stay (C := fun _ => False) hb8 (fun k h => h.elim)
      have hm8 := (hb8.block rs (by omega) (fun h => h)).trans HMR.out
      have ho8 := (hb8.block (rs + 1) (by omega) (fun h => h)).trans HOR.out
      have hG8 := (HGR.out.keep (w' := w8) fun p hp => hb8.cell (p := p) hp.2 (fun h => h)).more (S' := fun b => rs + 2 ≤ b ∧ b < w8.heap.size) fun b h => ⟨h.1, Nat.lt_of_lt_of_le h.2 hb8.size⟩
      have hB8 := HBR.out.trans (hb8.mono fun _ _ h => h.elim)
      have hs8 : rs + 2 ≤ w8.heap.size := Nat.le_trans hs7 hb8.size
      have HM8 := Lib.hid hm8
      have HO8 := Lib.hid ho8
      have HG8 := Lib.hid hG8
      have HB8 := Lib.hid hB8
      have HE8 := Lib.hid hE8
      clear hE8 hm8 ho8 hG8 hB8 hb8 HMR HOR HGR HBR HER hs7
      rcases HNX.out with ⟨hx, rfl, rfl⟩ | ⟨hx, -, n', hit'⟩
      · have hnx : nxt L P1 = 125 := by unfold nxt; rw [hx]; rfl
        have hPl : P1 < L.length := (List.getElem?_eq_some_iff.1 hx).1
        rw [hnx]
        obtain ⟨c0, c1, c2⟩ := HE8.out.cells
        have fz := HE8.out.frozen 1
        have hE4 := HE8.out.to (q := P1 + 1) (by omega)
        have hb4 : But (fun k => k = rb) w8 (w8.setCell ⟨rb, 1, none⟩ (.int .i64 ((P1 + 1 : Nat) : Int))) := But.setCell (C := fun k => k = rb) (p := ⟨rb, 1, none⟩) (But.refl _ w8) (.inl rfl) _
        rw [show ((P1 + 1 : Nat) : Int) = (P1 : Int) + 1 by omega] at hE4 hb4
        have hm4 := (hb4.block rs (by omega) (by omega)).trans HM8.out
        have ho4 := (hb4.block (rs + 1) (by omega) (by omega)).trans HO8.out
        have hG4 := (HG8.out.keep fun p hp => hb4.cell (p := p) hp.2 (by have := hp.1; omega)).more (S' := fun b => rs + 2 ≤ b ∧ b < (w8.setCell ⟨rb, 1, none⟩ (.int .i64 ((P1 : Int) + 1))).heap.size) fun b h => ⟨h.1, Nat.lt_of_lt_of_le h.2 hb4.size⟩
        have HEr := Lib.hid hE4
        have HBr := Lib.hid (HB8.out.trans hb4)
        have HMr := Lib.hid hm4
        have HOb := Lib.hid ho4
        have hs4 := hb4.size
        have hll : l = acc ++ [a] := by rw [← HAC.out, HRE.out]
        rw [← hll] at hG4
        have HG := Lib.hid hG4
        clear hE4 hb4 hm4 ho4 hG4 hnx
        go_upto_region 30 with fail
        generalize (w8.setCell ⟨rb, 1, none⟩ (.int .i64 ((P1 : Int) + 1))) = w4 at *
        clear c0 c1 c2 fz
        obtain ⟨y0, y1, y2, y3, y4, y5, y6⟩ := box7_of HMr.out
        obtain ⟨o0, o1, o2, o3, o4, o5, o6⟩ := box7_of HOb.out
        have fz : ∀ j, w4.frozen? ⟨rs, j, none⟩ = false := fun j => frozen_of_row w4 _ j _ _ HMr.out
        have hor : ¬ rs + 1 = rs := by omega
        go_wp2_with fail
        refine bodyPost_ret (v := .agg #[.int .i64 6, .bool false, .slice A2 n2 c2, .int .i64 0, .string ⟨#[]⟩, .slice LA2 ln2 lc2, .slice KA2 kn2 kc2]) (by simp [results, Tryz.results81, go_sem, y0, y1, y2, y3, y4, y5, y6, o0, o1, o2, o3, o4, o5, o6]) rfl ?_
        have hs1 := put7_but (But.refl (fun k => k = rs) w4) (b := rs) (.inl rfl) (.int .i64 6) (.bool false) (.slice A2 n2 c2) (.int .i64 0) (.string ⟨#[]⟩) (.slice LA2 ln2 lc2) (.slice KA2 kn2 kc2)
        have hs2 := put7_but HBr.out (b := rs) (.inr (Nat.le_of_eq HR.out)) (.int .i64 6) (.bool false) (.slice A2 n2 c2) (.int .i64 0) (.string ⟨#[]⟩) (.slice LA2 ln2 lc2) (.slice KA2 kn2 kc2)
        generalize (((((((w4.setCell ⟨rs, 0, none⟩ (.int .i64 6)).setCell ⟨rs, 1, none⟩ (.bool false)).setCell ⟨rs, 2, none⟩ (.slice A2 n2 c2)).setCell ⟨rs, 3, none⟩ (.int .i64 0)).setCell ⟨rs, 4, none⟩ (.string ⟨#[]⟩)).setCell ⟨rs, 5, none⟩ (.slice LA2 ln2 lc2)).setCell ⟨rs, 6, none⟩ (.slice KA2 kn2 kc2)) = w7 at *
        have hbase := HEr.out.base
        have hs7 := hs1.size
        have hrs9 := HR.out
        exact ⟨_, rfl, (HG.out.keep (w' := w7) fun p hp => hs1.cell (p := p) hp.2 (by have := hp.1; omega)).more fun b h => ⟨by omega, by omega⟩, HEr.out.stay hs1 (fun k hk => by omega), hs2⟩
      · have hnx : nxt L P1 = 44 := by unfold nxt; rw [hx]; rfl
        have hPl : P1 < L.length := (List.getElem?_eq_some_iff.1 hx).1
        have hpk := fun W (hW : REnv B L A c rb W P1) => rpeek_c hW
        rw [hnx] at hpk ⊢
        have HPK := Lib.hid hpk
        clear hpk hnx
        go_wp2_with fail
        refine (HPK.out _ HE8.out).mono ?_
        rintro e9 w9 ⟨rfl, hb9⟩
        have hE9 := HE8.out.stay (C := fun _ => False) hb9 (fun k h => h.elim)
        have hm9 := (hb9.block rs (by omega) (fun h => h)).trans HM8.out
        have ho9 := (hb9.block (rs + 1) (by omega) (fun h => h)).trans HO8.out
        have hG9 := (HG8.out.keep (w' := w9) fun p hp => hb9.cell (p := p) hp.2 (fun h => h)).more (S' := fun b => rs + 2 ≤ b ∧ b < w9.heap.size) fun b h => ⟨h.1, Nat.lt_of_lt_of_le h.2 hb9.size⟩
        have hB9 := HB8.out.trans (hb9.mono fun _ _ h => h.elim)
        have hs9' : rs + 2 ≤ w9.heap.size := Nat.le_trans hs8 hb9.size
        obtain ⟨c0, c1, c2⟩ := hE9.cells
        have fz := hE9.frozen 1
        have hE4 := hE9.to (q := P1 + 1) (by omega)
        have hb4 : But (fun k => k = rb) w9 (w9.setCell ⟨rb, 1, none⟩ (.int .i64 ((P1 + 1 : Nat) : Int))) := But.setCell (C := fun k => k = rb) (p := ⟨rb, 1, none⟩) (But.refl _ w9) (.inl rfl) _
        rw [show ((P1 + 1 : Nat) : Int) = (P1 : Int) + 1 by omega] at hE4 hb4
        have hm4 := (hb4.block rs (by omega) (by omega)).trans hm9
        have ho4 := (hb4.block (rs + 1) (by omega) (by omega)).trans ho9
        have hG4 := (hG9.keep fun p hp => hb4.cell (p := p) hp.2 (by have := hp.1; omega)).more (S' := fun b => rs + 2 ≤ b ∧ b < (w9.setCell ⟨rb, 1, none⟩ (.int .i64 ((P1 : Int) + 1))).heap.size) fun b h => ⟨h.1, Nat.lt_of_lt_of_le h.2 hb4.size⟩
        have hB4 := hB9.trans hb4
        have hs4 : rs + 2 ≤ (w9.setCell ⟨rb, 1, none⟩ (.int .i64 ((P1 : Int) + 1))).heap.size := Nat.le_trans hs9' hb4.size
        have HM4 := Lib.hid hm4
        have HO4 := Lib.hid ho4
        have HG4 := Lib.hid hG4
        have HB4 := Lib.hid hB4
        have HSP := Lib.hid (rspc7_c hE4)
        clear hm9 ho9 hG9 hB9 hE9 hb9 hm4 ho4 hG4 hB4 hE4 hb4
        go_wp2_with fail
        generalize (w9.setCell ⟨rb, 1, none⟩ (.int .i64 ((P1 : Int) + 1))) = w4 at *
        clear c0 c1 c2 fz
        refine HSP.out.mono ?_
        rintro e9 w5 ⟨⟨v9, rfl⟩, hE5, hb5⟩
        have hE5' : REnv B L A c rb w5 (wsN L (P1 + 1)) := hE5
        have hws2 : P1 + 1 ≤ wsN L (P1 + 1) := wsN_ge _
        have hws3 := wsN_le (L := L) (p := P1 + 1) (by omega)
        have hm5 := (hb5.block rs (by omega) (by omega)).trans HM4.out
        have ho5 := (hb5.block (rs + 1) (by omega) (by omega)).trans HO4.out
        have hG5 := (HG4.out.keep (w' := w5) fun p hp => hb5.cell (p := p) hp.2 (by have := hp.1; omega)).more (S' := fun b => rs + 2 ≤ b ∧ b < w5.heap.size) fun b h => ⟨h.1, Nat.lt_of_lt_of_le h.2 hb5.size⟩
        have hB5 := HB4.out.trans hb5
        have hat0 := HE.out.at_of
        have hat5 := hE5'.at_of
        have hl0 : ln0 + 1 ≤ 4096 := by have := HN1.out; omega
        have hlen : (acc ++ [a]).length = ln0 + 1 := by rw [List.length_append, HAL.out]; rfl
        go_wp2_with fail
        refine ⟨⟨wsN L (P1 + 1), n', nth + 1, acc ++ [a], l', A2, LA2, KA2, n2, c2, ln2, lc2, kn2, kc2, by rw [hlen]; first | go_num | (congr 1; omega), hit', by show _ = _; rw [hlen]; have := HN1.out; omega, by show _ = _; rw [← HAC.out, HRE.out, List.append_assoc]; rfl, hE5', hB5, hm5, ho5, hG5⟩, ?_⟩
        rw [hat0, hat5]
        omega
end Go.Proofs.YtkigpbkkhgabeaaGreatDoor
