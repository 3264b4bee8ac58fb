import Derived.Test.YtkigpbkkhgabeaaGreatDoorYWsl
import Derived.Test.YtkigpbkkhgabeaaGreatDoorYWob
import Derived.Test.YtkigpbkkhgabeaaGreatDoorYWyl
import Derived.Test.YtkigpbkkhgabeaaGreatDoorYWyn
import Derived.Laws.EntriesVeiled
import Derived.Lib.ConvBytes
set_option linter.unusedVariables false
set_option linter.unusedSimpArgs false
namespace Go.Proofs.YtkigpbkkhgabeaaGreatDoor
open Go.RowKit Go.Lib
set_option maxRecDepth 4000000 in
set_option maxHeartbeats 4000000 in
theorem rval_six {B : Nat} {L : List UInt8} {A : Option Addr} {c rb d n : Nat} {w : World} {p q : Nat} {a : VT} {x : UInt8} (E : REnv B L A c rb w p) (hx : L[p]? = some x) (hn : n < 4096) (hk : (x = 91 ∧ d < 64 ∧ ∀ W,REnv B L A c rb W p → Calls Tryz.prog 80 #[.pointer (some ⟨rb,0,none⟩),.int .i64 ((d : Int) + 1)] W (RvP B L A c rb q a W)) ∨ (x = 123 ∧ d < 64 ∧ ∀ W,REnv B L A c rb W p → Calls Tryz.prog 81 #[.pointer (some ⟨rb,0,none⟩),.int .i64 ((d : Int) + 1)] W (RvP B L A c rb q a W)) ∨ (x = 110 ∧ d ≤ 64 ∧ ∀ W,REnv B L A c rb W p → Calls Tryz.prog 84 #[.pointer (some ⟨rb,0,none⟩),.string ⟨#[110,117,108,108]⟩,.int .i64 0] W (RvP B L A c rb q a W)) ∨ (x = 102 ∧ d ≤ 64 ∧ ∀ W,REnv B L A c rb W p → Calls Tryz.prog 84 #[.pointer (some ⟨rb,0,none⟩),.string ⟨#[102,97,108,115,101]⟩,.int .i64 1] W (RvP B L A c rb q a W)) ∨ (x = 116 ∧ d ≤ 64 ∧ ∀ W,REnv B L A c rb W p → Calls Tryz.prog 84 #[.pointer (some ⟨rb,0,none⟩),.string ⟨#[116,114,117,101]⟩,.int .i64 2] W (RvP B L A c rb q a W)) ∨ (x = 45 ∧ d ≤ 64 ∧ ∀ W,REnv B L A c rb W p → Calls Tryz.prog 83 #[.pointer (some ⟨rb,0,none⟩)] W (RvP B L A c rb q a W))) :
  Calls Tryz.prog 52 #[.pointer (some ⟨rb,0,none⟩),.int .i64 (d : Int),.int .i64 (n : Int)] w (RvP B L A c rb q a w):=by
 rcases hk with ⟨rfl,hd,hC⟩ | ⟨rfl,hd,hC⟩ | ⟨rfl,hd,hC⟩ | ⟨rfl,hd,hC⟩ | ⟨rfl,hd,hC⟩ | ⟨rfl,hd,hC⟩
 all_goals
  have mixed : Tryz.prog.follows .mixedOrders = true:=by kernel_rfl
  have hpl : p < L.length:=(List.getElem?_eq_some_iff.1 hx).1
  have hrl:=E.lt
  have hfit:=E.fits
  obtain ⟨rs,hrs⟩ : ∃ b,w.heap.size = b:=⟨_,rfl⟩
  have hb0 : But (fun _ => False) w (w.alloc (.cells #[.int .i64 0,.bool false,.slice none 0 0,.int .i64 0,.string ⟨#[]⟩,.slice none 0 0,.slice none 0 0] 28)):=(But.refl _ w).alloc _
  have hm:=World.alloc_heap_new w (.cells #[.int .i64 0,.bool false,.slice none 0 0,.int .i64 0,.string ⟨#[]⟩,.slice none 0 0,.slice none 0 0] 28)
  have hs0 : (w.alloc (.cells #[.int .i64 0,.bool false,.slice none 0 0,.int .i64 0,.string ⟨#[]⟩,.slice none 0 0,.slice none 0 0] 28)).heap.size = rs + 1:=by rw [World.size_alloc,hrs]
  rw [hrs] at hm
  have hE0:=E.stay hb0 (fun k h => h.elim)
  have hpk:=rpeek_c hE0
  rw [nxt_of hx] at hpk
  have HPK:=Lib.hid hpk
  have HM:=Lib.hid hm
  have HB0:=Lib.hid hb0
  have HS0:=Lib.hid hs0
  have HCC:=Lib.hid hC
  clear hpk E hm hb0 hs0 hC
  go_enter Tryz.func52,Tryz.ntmps52
  go_wp2_with fail
  generalize (w.alloc (.cells #[.int .i64 0,.bool false,.slice none 0 0,.int .i64 0,.string ⟨#[]⟩,.slice none 0 0,.slice none 0 0] 28)) = w0 at *
  refine HPK.out.mono ?_
  rintro e9 w1 ⟨rfl,hb1⟩
  have hE1:=hE0.stay (C:=fun _ => False) hb1 (fun k h => h.elim)
  have hm1:=(hb1.block rs (Array.getElem?_eq_some_iff.1 HM.out).1 (fun h => h)).trans HM.out
  have hB1:=HB0.out.trans hb1
  have hs1 : rs + 1 ≤ w1.heap.size:=by have:=hb1.size; rw [HS0.out] at this; exact this
  obtain ⟨c0,c1,c2⟩:=hE1.cells
  have hd64 : d < 64 → ((d : Int) == 64) = false:=fun h => by rw [beq_eq_false_iff_ne]; omega
  have hd65:=hd64
  try specialize hd65 hd
  clear hd64
  have hne : ((n : Int) == 4096) = false:=by rw [beq_eq_false_iff_ne]; omega
  have HE1:=Lib.hid hE1
  have HM1:=Lib.hid hm1
  have HB1:=Lib.hid hB1
  clear hE0 hb1 hE1 hm1 hB1 HPK HM HB0
  go_upto_region 4 with fail
  go_region_o
  have hE2 : REnv B L A c rb w1.drew p:=HE1.out.stay (C:=fun _ => False) (But.refl _ _).drew (fun k h => h.elim)
  have hm2 : w1.drew.heap[rs]? = some (.cells #[.int .i64 0,.bool false,.slice none 0 0,.int .i64 0,.string ⟨#[]⟩,.slice none 0 0,.slice none 0 0] 28):=HM1.out
  have hB2 : But (fun _ => False) w w1.drew:=HB1.out.drew
  have hs2 : rs + 1 ≤ w1.drew.heap.size:=hs1
  generalize w1.drew = w2 at *
  have HTX:=Lib.hid (HCC.out w2 hE2)
  have HM2:=Lib.hid hm2
  have HB2:=Lib.hid hB2
  clear hE2 hm2 hB2 c0 c1 c2 HE1 HM1 HB1 hx
  go_wp2_with fail
  refine HTX.out.mono ?_
  rintro e9 w3 ⟨cs,rfl,hxv,hE3,hb3⟩
  obtain ⟨k1,neg1,xs1,e1,t1,li1,ks1,hak⟩ : ∃ k neg xs e t li ks,a = VT.mk k neg xs e t li ks:=by cases a; exact ⟨_,_,_,_,_,_,_,rfl⟩
  have hvb:=hxv
  rw [hak] at hvb
  obtain ⟨A1,n1,c1,LA1,ln1,lc1,KA1,kn1,kc1,rfl,-⟩:=hvb.parts
  clear hvb hak
  have hm3:=(hb3.block rs (Array.getElem?_eq_some_iff.1 HM2.out).1 (by omega)).trans HM2.out
  obtain ⟨z0,z1,z2,z3,z4,z5,z6⟩:=box7_of hm3
  have fz : ∀ j,w3.frozen? ⟨rs,j,none⟩ = false:=fun j => frozen_of_row w3 _ j _ _ hm3
  have HXV:=Lib.hid hxv
  have HE3:=Lib.hid hE3
  have HB3:=Lib.hid ((HB2.out.mono (fun _ _ h => h.elim)).trans hb3)
  clear hm3 hE3 hb3 hxv HTX
  go_wp2_with fail
  refine bodyPost_ret (v:=.agg #[.int .i64 k1,.bool neg1,.slice A1 n1 c1,.int .i64 e1,.string t1,.slice LA1 ln1 lc1,.slice KA1 kn1 kc1]) (by simp [results,Tryz.results52,go_sem,z0,z1,z2,z3,z4,z5,z6]) rfl ?_
  have hs1':=put7_but (But.refl (fun k => k = rs) w3) (b:=rs) (.inl rfl) (.int .i64 k1) (.bool neg1) (.slice A1 n1 c1) (.int .i64 e1) (.string t1) (.slice LA1 ln1 lc1) (.slice KA1 kn1 kc1)
  have hs2':=put7_but HB3.out (b:=rs) (.inr (Nat.le_of_eq hrs)) (.int .i64 k1) (.bool neg1) (.slice A1 n1 c1) (.int .i64 e1) (.string t1) (.slice LA1 ln1 lc1) (.slice KA1 kn1 kc1)
  generalize (((((((w3.setCell ⟨rs,0,none⟩ (.int .i64 k1)).setCell ⟨rs,1,none⟩ (.bool neg1)).setCell ⟨rs,2,none⟩ (.slice A1 n1 c1)).setCell ⟨rs,3,none⟩ (.int .i64 e1)).setCell ⟨rs,4,none⟩ (.string t1)).setCell ⟨rs,5,none⟩ (.slice LA1 ln1 lc1)).setCell ⟨rs,6,none⟩ (.slice KA1 kn1 kc1)) = w7 at *
  have hbase:=HE3.out.base
  have hsz:=hs1'.size
  exact ⟨_,rfl,(HXV.out.keep (w':=w7) fun p hp => hs1'.cell (p:=p) hp.2 (by have:=hp.1; omega)).more fun b h => ⟨by omega,by omega⟩,HE3.out.stay hs1' (fun k hk => by omega),hs2'⟩
set_option maxRecDepth 4000000 in
set_option maxHeartbeats 4000000 in
theorem rval_digit {B : Nat} {L : List UInt8} {A : Option Addr} {c rb d n : Nat} {w : World} {p q : Nat} {a : VT} {x : UInt8} (E : REnv B L A c rb w p) (hx : L[p]? = some x) (hdg : isDg x = true) (hn : n < 4096) (hd : d ≤ 64)
  (hC : ∀ W,REnv B L A c rb W p → Calls Tryz.prog 83 #[.pointer (some ⟨rb,0,none⟩)] W (RvP B L A c rb q a W)) :
  Calls Tryz.prog 52 #[.pointer (some ⟨rb,0,none⟩),.int .i64 (d : Int),.int .i64 (n : Int)] w (RvP B L A c rb q a w):=by
 have mixed : Tryz.prog.follows .mixedOrders = true:=by kernel_rfl
 have hpl : p < L.length:=(List.getElem?_eq_some_iff.1 hx).1
 have hrl:=E.lt
 have hfit:=E.fits
 obtain ⟨rs,hrs⟩ : ∃ b,w.heap.size = b:=⟨_,rfl⟩
 have hb0 : But (fun _ => False) w (w.alloc (.cells #[.int .i64 0,.bool false,.slice none 0 0,.int .i64 0,.string ⟨#[]⟩,.slice none 0 0,.slice none 0 0] 28)):=(But.refl _ w).alloc _
 have hm:=World.alloc_heap_new w (.cells #[.int .i64 0,.bool false,.slice none 0 0,.int .i64 0,.string ⟨#[]⟩,.slice none 0 0,.slice none 0 0] 28)
 have hs0 : (w.alloc (.cells #[.int .i64 0,.bool false,.slice none 0 0,.int .i64 0,.string ⟨#[]⟩,.slice none 0 0,.slice none 0 0] 28)).heap.size = rs + 1:=by rw [World.size_alloc,hrs]
 rw [hrs] at hm
 have hE0:=E.stay hb0 (fun k h => h.elim)
 have hpk:=rpeek_c hE0
 rw [nxt_of hx] at hpk
 obtain ⟨z,hz⟩ : ∃ z,((x.toNat : Nat) : Int) = z:=⟨_,rfl⟩
 rw [hz] at hpk
 have hdz : 48 ≤ z ∧ z ≤ 57:=by
  unfold isDg at hdg
  simp only [Bool.and_eq_true,decide_eq_true_eq,UInt8.le_iff_toNat_le] at hdg
  have h48 : (48 : UInt8).toNat = 48:=rfl
  have h57 : (57 : UInt8).toNat = 57:=rfl
  omega
 have f34 : (z == 34) = false:=by rw [beq_eq_false_iff_ne]; omega
 have f91 : (z == 91) = false:=by rw [beq_eq_false_iff_ne]; omega
 have f123 : (z == 123) = false:=by rw [beq_eq_false_iff_ne]; omega
 have f45 : (z == 45) = false:=by rw [beq_eq_false_iff_ne]; omega
 have g48 : decide (48 ≤ z) = true:=decide_eq_true hdz.1
 have g57 : decide (z ≤ 57) = true:=decide_eq_true hdz.2
 clear hz hdz hdg
 have HPK:=Lib.hid hpk
 have HM:=Lib.hid hm
 have HB0:=Lib.hid hb0
 have HS0:=Lib.hid hs0
 have HCC:=Lib.hid hC
 clear hpk E hm hb0 hs0 hC
 go_enter Tryz.func52,Tryz.ntmps52
 go_wp2_with fail
 generalize (w.alloc (.cells #[.int .i64 0,.bool false,.slice none 0 0,.int .i64 0,.string ⟨#[]⟩,.slice none 0 0,.slice none 0 0] 28)) = w0 at *
 refine HPK.out.mono ?_
 rintro e9 w1 ⟨rfl,hb1⟩
 have hE1:=hE0.stay (C:=fun _ => False) hb1 (fun k h => h.elim)
 have hm1:=(hb1.block rs (Array.getElem?_eq_some_iff.1 HM.out).1 (fun h => h)).trans HM.out
 have hB1:=HB0.out.trans hb1
 have hs1 : rs + 1 ≤ w1.heap.size:=by have:=hb1.size; rw [HS0.out] at this; exact this
 obtain ⟨c0,c1,c2⟩:=hE1.cells
 have hne : ((n : Int) == 4096) = false:=by rw [beq_eq_false_iff_ne]; omega
 have HE1:=Lib.hid hE1
 have HM1:=Lib.hid hm1
 have HB1:=Lib.hid hB1
 clear hE0 hb1 hE1 hm1 hB1 HPK HM HB0
 go_upto_region 4 with fail
 go_region_o
 have hE2 : REnv B L A c rb w1.drew p:=HE1.out.stay (C:=fun _ => False) (But.refl _ _).drew (fun k h => h.elim)
 have hm2 : w1.drew.heap[rs]? = some (.cells #[.int .i64 0,.bool false,.slice none 0 0,.int .i64 0,.string ⟨#[]⟩,.slice none 0 0,.slice none 0 0] 28):=HM1.out
 have hB2 : But (fun _ => False) w w1.drew:=HB1.out.drew
 have hs2 : rs + 1 ≤ w1.drew.heap.size:=hs1
 generalize w1.drew = w2 at *
 have HTX:=Lib.hid (HCC.out w2 hE2)
 have HM2:=Lib.hid hm2
 have HB2:=Lib.hid hB2
 clear hE2 hm2 hB2 c0 c1 c2 HE1 HM1 HB1 hx
 go_wp2_with fail
 refine HTX.out.mono ?_
 rintro e9 w3 ⟨cs,rfl,hxv,hE3,hb3⟩
 obtain ⟨k1,neg1,xs1,e1,t1,li1,ks1,hak⟩ : ∃ k neg xs e t li ks,a = VT.mk k neg xs e t li ks:=by cases a; exact ⟨_,_,_,_,_,_,_,rfl⟩
 have hvb:=hxv
 rw [hak] at hvb
 obtain ⟨A1,n1,c1,LA1,ln1,lc1,KA1,kn1,kc1,rfl,-⟩:=hvb.parts
 clear hvb hak
 have hm3:=(hb3.block rs (Array.getElem?_eq_some_iff.1 HM2.out).1 (by omega)).trans HM2.out
 obtain ⟨z0,z1,z2,z3,z4,z5,z6⟩:=box7_of hm3
 have fz : ∀ j,w3.frozen? ⟨rs,j,none⟩ = false:=fun j => frozen_of_row w3 _ j _ _ hm3
 have HXV:=Lib.hid hxv
 have HE3:=Lib.hid hE3
 have HB3:=Lib.hid ((HB2.out.mono (fun _ _ h => h.elim)).trans hb3)
 clear hm3 hE3 hb3 hxv HTX
 go_wp2_with fail
 refine bodyPost_ret (v:=.agg #[.int .i64 k1,.bool neg1,.slice A1 n1 c1,.int .i64 e1,.string t1,.slice LA1 ln1 lc1,.slice KA1 kn1 kc1]) (by simp [results,Tryz.results52,go_sem,z0,z1,z2,z3,z4,z5,z6]) rfl ?_
 have hs1':=put7_but (But.refl (fun k => k = rs) w3) (b:=rs) (.inl rfl) (.int .i64 k1) (.bool neg1) (.slice A1 n1 c1) (.int .i64 e1) (.string t1) (.slice LA1 ln1 lc1) (.slice KA1 kn1 kc1)
 have hs2':=put7_but HB3.out (b:=rs) (.inr (Nat.le_of_eq hrs)) (.int .i64 k1) (.bool neg1) (.slice A1 n1 c1) (.int .i64 e1) (.string t1) (.slice LA1 ln1 lc1) (.slice KA1 kn1 kc1)
 generalize (((((((w3.setCell ⟨rs,0,none⟩ (.int .i64 k1)).setCell ⟨rs,1,none⟩ (.bool neg1)).setCell ⟨rs,2,none⟩ (.slice A1 n1 c1)).setCell ⟨rs,3,none⟩ (.int .i64 e1)).setCell ⟨rs,4,none⟩ (.string t1)).setCell ⟨rs,5,none⟩ (.slice LA1 ln1 lc1)).setCell ⟨rs,6,none⟩ (.slice KA1 kn1 kc1)) = w7 at *
 have hbase:=HE3.out.base
 have hsz:=hs1'.size
 exact ⟨_,rfl,(HXV.out.keep (w':=w7) fun p hp => hs1'.cell (p:=p) hp.2 (by have:=hp.1; omega)).more fun b h => ⟨by omega,by omega⟩,HE3.out.stay hs1' (fun k hk => by omega),hs2'⟩
end Go.Proofs.YtkigpbkkhgabeaaGreatDoor
namespace Go.Proofs.YtkigpbkkhgabeaaGreatDoor
open Go.RowKit Go.Lib
theorem rHeld_ok {p q r : Nat} {v x : VT} {L : List UInt8} (h : rHeld p v L q = .ok x r) : x = v ∧ r = q:=by
 unfold rHeld at h
 split at h
 ·cases h
 ·injection h with h1 h2
  exact ⟨h1.symm,h2.symm⟩
theorem vinWord7 (w : World) (S : Nat → Prop) (k : Int) : VIn w S (numT0 k) [.int .i64 k,.bool false,.slice none 0 0,.int .i64 0,.string ⟨#[]⟩,.slice none 0 0,.slice none 0 0] :=
 .mk (cs:=fun _ => []) (Rd.nil _ _ _) (by omega) (by show (0 : Nat) ≤ _; omega) ⟨rfl,fun h0 => absurd h0 (by omega)⟩ (by omega) rfl (by omega) (Nat.le_refl _) (fun h0 => absurd h0 (by omega)) (fun i x hi => by simp at hi)
theorem rlow7 {B : Nat} {L : List UInt8} {A : Option Addr} {c rb d n : Nat} {w : World} {p q : Nat} {a : VT} {x : UInt8} (E : REnv B L A c rb w p) (hx : L[p]? = some x) (hn : n < 4096) (hd : d ≤ 64)
  (hk : isDg x = true ∨ x = 34 ∨ x = 45 ∨ x = 110 ∨ x = 102 ∨ x = 116)
  (h : (if x == 34 then rAt rText fun t => rPure (.mk 4 false [] 0 t [] [])
  else if x == 110 then rAt (rWord [110,117,108,108]) fun _ => rPure (numT0 0)
  else if x == 102 then rAt (rWord [102,97,108,115,101]) fun _ => rPure (numT0 1)
  else if x == 116 then rAt (rWord [116,114,117,101]) fun _ => rPure (numT0 2)
  else rNumber) L p = .ok a q) :
  Calls Tryz.prog 52 #[.pointer (some ⟨rb,0,none⟩),.int .i64 (d : Int),.int .i64 (n : Int)] w (RvP B L A c rb q a w):=by
 have hpl : p < L.length:=(List.getElem?_eq_some_iff.1 hx).1
 have word : ∀ {s : List UInt8} {k : Int},rAt (rWord s) (fun _ => rPure (numT0 k)) L p = .ok a q → s.length ≤ 5 → ∀ W,REnv B L A c rb W p → Calls Tryz.prog 84 #[.pointer (some ⟨rb,0,none⟩),.string ⟨s.toArray⟩,.int .i64 k] W (RvP B L A c rb q a W):=fun {s k} h hs W hW => by
  obtain ⟨u,r,h1,h2⟩:=bind_ok h
  unfold rPure at h2
  injection h2 with e1 e2
  subst e1 e2
  refine (rlit_c hW h1 hs).mono ?_
  rintro e w' ⟨rfl,hE,hb⟩
  exact ⟨_,rfl,vinWord7 _ _ _,hE,hb⟩
 by_cases h34 : x = 34
 ·subst h34
  rw [if_pos (by decide)] at h
  obtain ⟨t,r,h1,h2⟩:=bind_ok h
  unfold rPure at h2
  injection h2 with e1 e2
  subst e1 e2
  have hsz:=rText_size7 h1
  have hq : r ≤ L.length:=by
   exact (up_text h1).2
  refine (rvalT_c (d:=d) (n:=n) E hx h1 hq hn hd).mono ?_
  rintro e w' ⟨rfl,hE,hb⟩
  exact ⟨_,rfl,vinText7 (by omega),hE,hb⟩
 ·rw [if_neg (by simpa using h34)] at h
  by_cases h110 : x = 110
  ·subst h110
   rw [if_pos (by decide)] at h
   exact rval_six E hx hn (.inr (.inr (.inl ⟨rfl,hd,word h (by decide)⟩)))
  ·rw [if_neg (by simpa using h110)] at h
   by_cases h102 : x = 102
   ·subst h102
    rw [if_pos (by decide)] at h
    exact rval_six E hx hn (.inr (.inr (.inr (.inl ⟨rfl,hd,word h (by decide)⟩))))
   ·rw [if_neg (by simpa using h102)] at h
    by_cases h116 : x = 116
    ·subst h116
     rw [if_pos (by decide)] at h
     exact rval_six E hx hn (.inr (.inr (.inr (.inr (.inl ⟨rfl,hd,word h (by decide)⟩)))))
    ·rw [if_neg (by simpa using h116)] at h
     by_cases h45 : x = 45
     ·subst h45
      exact rval_six E hx hn (.inr (.inr (.inr (.inr (.inr ⟨rfl,hd,fun W hW => rnum7_c hW h hpl⟩)))))
     ·have hdg : isDg x = true:=by
       rcases hk with h | h | h | h | h | h
       ·exact h
       ·exact absurd h h34
       ·exact absurd h h45
       ·exact absurd h h110
       ·exact absurd h h102
       ·exact absurd h h116
      exact rval_digit E hx hdg hn hd (fun W hW => rnum7_c hW h hpl)
theorem rval_all : ∀ k,RVal k
 | 0 => fun B L A c rb w p q a d n nth E h hkd hn => by
  unfold rValue at h
  obtain ⟨u,r,h1,h2⟩:=bind_ok h
  obtain ⟨rfl,-,x,hx,h3,h4⟩:=rBegin_ok h1
  obtain ⟨y,r2,h5,h6⟩:=bind_ok h2
  unfold rPeek at h5
  rw [hx] at h5
  injection h5 with e1 e2
  subst e1 e2
  have hk : isDg x = true ∨ x = 34 ∨ x = 45 ∨ x = 110 ∨ x = 102 ∨ x = 116:=by
   rcases h4 with h | h | h
   ·exact absurd (h3 (.inl h)) (by omega)
   ·exact absurd (h3 (.inr h)) (by omega)
   ·exact h
  exact rlow7 E hx hn (by omega) hk h6
 | k + 1 => fun B L A c rb w p q a d n nth E h hkd hn => by
  have ih:=rval_all k
  unfold rValue at h
  obtain ⟨u,r,h1,h2⟩:=bind_ok h
  obtain ⟨rfl,-,x,hx,h3,h4⟩:=rBegin_ok h1
  obtain ⟨y,r2,h5,h6⟩:=bind_ok h2
  unfold rPeek at h5
  rw [hx] at h5
  injection h5 with e1 e2
  subst e1 e2
  have hpl : r < L.length:=(List.getElem?_eq_some_iff.1 hx).1
  by_cases h91 : x = 91
  ·subst h91
   rw [if_pos (by decide)] at h6
   cases hl : rItems 93 (rValue mkObj k) L r with
   | bad e1 e2 => rw [hl] at h6; cases h6
   | ok l q1 =>
    rw [hl] at h6
    obtain ⟨rfl,rfl⟩:=rHeld_ok (L:=L) h6
    exact rval_six E hx hn (.inl ⟨rfl,by omega,fun W hW => by
     have:=rlist7_c (d:=d + 1) ih hW hl (by omega) hpl
     rwa [show ((d + 1 : Nat) : Int) = (d : Int) + 1 by omega] at this⟩)
  ·rw [if_neg (by simpa using h91)] at h6
   by_cases h123 : x = 123
   ·subst h123
    rw [if_pos (by decide)] at h6
    cases hl : rItems 125 (pairR k) L r with
    | bad e1 e2 =>
     have h6' : (rItems 125 (pairR k) L r).bind (fun l q => rHeld r (mkObj l) L q) = .ok a q:=h6
     rw [hl] at h6'; cases h6'
    | ok l q1 =>
     have h6' : (rItems 125 (pairR k) L r).bind (fun l q => rHeld r (mkObj l) L q) = .ok a q:=h6
     rw [hl] at h6'
     obtain ⟨rfl,rfl⟩:=rHeld_ok (L:=L) h6'
     exact rval_six E hx hn (.inr (.inl ⟨rfl,by omega,fun W hW => by
      have:=robj7_c (d:=d + 1) ih hW hl (by omega) hpl
      rwa [show ((d + 1 : Nat) : Int) = (d : Int) + 1 by omega] at this⟩))
   ·rw [if_neg (by simpa using h123)] at h6
    have hk : isDg x = true ∨ x = 34 ∨ x = 45 ∨ x = 110 ∨ x = 102 ∨ x = 116:=by
     rcases h4 with h | h | h
     ·exact absurd h h91
     ·exact absurd h h123
     ·exact h
    exact rlow7 E hx hn (by omega) hk h6
theorem rvOk_of {L : List UInt8} {p q nth : Nat} {a : VT} (h : rValue mkObj 64 nth L p = .ok a q) : RvOk L p q a:=fun B A c rb w E => rval_all 64 B L A c rb w p q a 0 0 nth E h rfl (by omega)
end Go.Proofs.YtkigpbkkhgabeaaGreatDoor
namespace Go.Proofs.YtkigpbkkhgabeaaGreatDoor
open Go.RowKit Go.Lib
theorem Grow.nilW (N : Nat) (W : World) : Grow N (.slice none 0 0) [] W:=⟨fun _ => [],⟨rfl,.inl ⟨rfl,rfl⟩⟩,fun i hi => absurd hi (by simp),fun i x hx => absurd hx (by simp)⟩
theorem Grow.rowW {N : Nat} {l : List VT} {W : World} {LA : Option Addr} {n lc : Nat} (h : Grow N (.slice LA n lc) l W) (hn : l.length = n) (hs : n ≤ 1256584717458) : RdL W (fun b => N ≤ b ∧ b < W.heap.size) LA n l ∧ n ≤ lc:=by
 obtain ⟨cs,h1,h2,h3⟩:=h
 subst hn
 have h4 : ∀ i x,l[i]? = some x → VIn W (fun b => N ≤ b ∧ b < W.heap.size) x (cs i):=fun i x hx => (h3 i x hx).more fun b hb => ⟨hb.1,hb.2.1⟩
 rcases h1.2 with ⟨e,h0⟩ | ⟨g,cap,cur,e1,e2,e3,e4,e5,e6,e7⟩
 ·injection e with e1 e2 e3
  exact ⟨⟨rfl,by omega,cs,fun h => absurd h (by omega),h4⟩,by omega⟩
 ·injection e1 with e8 e9 e10
  subst e8 e10
  refine ⟨⟨rfl,by omega,cs,fun h => ⟨g,0,rfl,⟨e2,(Array.getElem?_eq_some_iff.1 e3).1⟩,fun i hi => ⟨h2 i hi,fun j hj => ?_⟩⟩,h4⟩,e4⟩
  have h7:=flatC_get (cs:=cs) (ix:=id) (j:=l.length) (fun q hq => h2 q hq) i j hi hj
  have h8 : j < (cs i).length:=by rw [h2 i hi]; exact hj
  rw [show (cs (id i))[j]? = some ((cs i)[j]) from List.getElem?_eq_getElem h8] at h7
  rw [List.getElem?_eq_getElem h8,Nat.zero_add]
  exact (ownsRow_cell h1 h7).1
def lenW : Value → Nat
 | .slice _ n _ => n
 | _ => 0
def AllW (L : List UInt8) (xs : List VT) (N : Nat) (e : Ending) (w' : World) : Prop :=
 (xs.length ≤ 4096 ∧ ∃ (LA : Option Addr) (lc : Nat),e = .returned (.tuple #[.slice LA xs.length lc,.int .i64 (L.length : Int),.int .i64 0]) ∧ RdL w' (fun b => N ≤ b ∧ b < w'.heap.size) LA xs.length xs ∧ xs.length ≤ lc) ∨
 (4096 < xs.length ∧ ∃ v k,e = .returned (.tuple #[v,k,.int .i64 3]))
set_option maxRecDepth 4000000 in
set_option maxHeartbeats 8000000 in
theorem rAllW_c {B st : Nat} {L : List UInt8} {xs : List VT} {A : Option Addr} {c : Nat} (w : World) (hoct : ∀ k x,L[k]? = some x → ∃ g off,A = some ⟨g,off,none⟩ ∧ g < B ∧ w.cell? ⟨g,off + k,none⟩ = some (.int .u8 (x.toNat : Int))) (hB : B ≤ w.heap.size)
  (hfit : L.length ≤ 65536) (hcap : L.length ≤ c) (hL : L = linesT quoteC numP st xs) (hok : ∀ x ∈ xs,errV x = 0) (h32 : ∀ x ∈ xs,∀ y ∈ partsV x,L32 y.num) (h0 : 0 < w.heap.size) :
  Calls Tryz.prog 18 #[.slice A L.length c] w fun e w' => AllW L xs w.heap.size e w' ∧ Below w.heap.size w w':=by
 obtain ⟨i7,hi7,hp7,hq7,hr7⟩:=info_parts infoV7
 obtain ⟨N,hN⟩ : ∃ N,w.heap.size = N:=⟨_,rfl⟩
 have HAT0:=Lib.hid (show AtW L st xs 0 0 by rw [hL]; exact AtW.start st xs)
 have HO:=Lib.hid (show ∀ W,Below N w W → ∀ k x,L[k]? = some x → ∃ g off,A = some ⟨g,off,none⟩ ∧ g < B ∧ W.cell? ⟨g,off + k,none⟩ = some (.int .u8 (x.toNat : Int)) from fun W hW k x hk => by
  obtain ⟨g,off,e1,e2,e3⟩:=hoct k x hk
  exact ⟨g,off,e1,e2,(hW.cell (p:=⟨g,off + k,none⟩) (by show g < _; omega)).trans e3⟩)
 have HOK:=Lib.hid hok
 have H32:=Lib.hid h32
 have HN:=Lib.hid hN
 have HN0:=Lib.hid (show 0 < N by omega)
 have hBN : B ≤ N:=by omega
 rw [hN]
 clear hoct hok h32 hL hN h0 hB
 go_enter Tryz.func18,Tryz.ntmps18
 go_wp2
 go_loopw [5,6] (fun ov av wr => ∃ (p ln lc : Nat) (LA : Option Addr),ov = .slice LA ln lc ∧ av = .int .i64 (p : Int) ∧ ln ≤ 4096 ∧ ln ≤ xs.length ∧ Hid (AtW L st xs ln p) ∧ Hid (Grow N (.slice LA ln lc) (xs.take ln) wr) ∧ Hid (Below N w wr)) (fun ov _ _ => 5000 - lenW ov)
 case atStart => exact ⟨0,0,0,none,rfl,rfl,Nat.zero_le _,Nat.zero_le _,HAT0.out,by exact Grow.nilW _ _,Below.refl _ _⟩
 case round =>
  obtain ⟨p,ln,lc,LA,rfl,rfl,hln4,hlx,hat,hg,hbel⟩:=hrel
  have hNw : N ≤ wr.heap.size:=by have:=hbel.out.size; have:=HN.out; omega
  have hpl:=hat.out.le
  have HBEL:=Lib.hid hbel.out
  have HG:=Lib.hid hg.out
  have HNW:=Lib.hid hNw
  have HAT:=Lib.hid hat.out
  have HLT:=Lib.hid (show (xs.take ln).length = ln by rw [List.length_take]; omega)
  clear hbel hg hNw hat
  rcases Nat.lt_or_ge ln xs.length with hlt | hge
  ·obtain ⟨x,hx⟩ : ∃ x,xs[ln]? = some x:=⟨_,List.getElem?_eq_getElem hlt⟩
   have hmem:=List.mem_of_getElem? hx
   have hox : okV x:=HOK.out x hmem
   obtain ⟨P,q,hP,hPl,hval,hat2⟩:=HAT.out.next hx hox (H32.out x hmem)
   have hnx:=rNextOk_c (A:=A) (c:=c) wr (HO.out wr HBEL.out) (by have:=HNW.out; omega) hfit hcap hpl hP hPl (rvOk_of hval) (okV_parts hox).1 (okV_parts hox).2.1
   have HNX:=Lib.hid hnx
   have HAT2:=Lib.hid hat2
   have HX:=Lib.hid hx
   clear hnx hat2 hval hP hPl hx hmem hox
   go_wp2_with fail
   refine HNX.out.mono ?_
   rintro e w2 ⟨cs,rfl,hvi,hb2⟩
   obtain ⟨k,neg,A1,n1,c1,ex,t,LA1,ln1,lc1,KA,kn,kc,rfl,-,-⟩:=hvi.seven
   have HB2:=Lib.hid hb2
   clear hb2 HNX
   have HB3:=Lib.hid ((HBEL.out.trans (HB2.out.mono HNW.out)).alloc (by have:=HB2.out.size; have:=HNW.out; omega) (.cells #[.int .i64 k,.bool neg,.slice A1 n1 c1,.int .i64 ex,.string t,.slice LA1 ln1 lc1,.slice KA kn kc] 28))
   have hbx:=World.alloc_heap_new w2 (.cells #[.int .i64 k,.bool neg,.slice A1 n1 c1,.int .i64 ex,.string t,.slice LA1 ln1 lc1,.slice KA kn kc] 28)
   have H23:=Lib.hid ((Below.refl w2.heap.size w2).alloc (Nat.le_refl _) (.cells #[.int .i64 k,.bool neg,.slice A1 n1 c1,.int .i64 ex,.string t,.slice LA1 ln1 lc1,.slice KA kn kc] 28))
   have hgr:=HG.out.keep (C:=fun _ => False) ((But.of HB2.out).alloc (.cells #[.int .i64 k,.bool neg,.slice A1 n1 c1,.int .i64 ex,.string t,.slice LA1 ln1 lc1,.slice KA kn kc] 28)) (fun k h => h.elim)
   have HGR:=Lib.hid hgr
   have hs3 : (w2.alloc (.cells #[.int .i64 k,.bool neg,.slice A1 n1 c1,.int .i64 ex,.string t,.slice LA1 ln1 lc1,.slice KA kn kc] 28)).heap.size = w2.heap.size + 1:=by simp
   have HS3:=Lib.hid hs3
   obtain ⟨t0,t1,t2,t3,t4,t5,t6⟩:=box7_of hbx
   have HVI:=Lib.hid hvi
   clear hgr hs3 hbx hvi
   by_cases h96 : ln = 4096
   ·have h96i : (ln : Int) = 4096:=by omega
    have hspc:=fun V (hV : Below N w V) => rSpace_c (A:=A) (cp:=c) V (fun j x h => by obtain ⟨g,off,h1,_,h3⟩:=HO.out V hV j x h; exact ⟨g,off,h1,h3⟩) hfit hpl
    have HSC:=Lib.hid hspc
    clear hspc t0 t1 t2 t3 t4 t5 t6 h96
    go_wp2_with fail
    generalize (w2.alloc (.cells #[.int .i64 k,.bool neg,.slice A1 n1 c1,.int .i64 ex,.string t,.slice LA1 ln1 lc1,.slice KA kn kc] 28)) = w3 at *
    refine (HSC.out w3 HB3.out).mono ?_
    rintro e' w4 ⟨rfl,rfl⟩
    obtain ⟨F,hF⟩ : ∃ F : Nat,p + ((L.drop p).takeWhile isWs).length = F:=⟨_,rfl⟩
    rw [hF]
    clear hF
    go_wp2_with fail
    refine bodyPost_ret (v:=.tuple #[.slice LA ln lc,.int .i64 (F : Int),.int .i64 3]) (by simp [results,Tryz.results18,go_sem]) rfl ?_
    exact ⟨.inr ⟨by omega,_,_,rfl⟩,HB3.out⟩
   ·have h96i : ¬ (ln : Int) = 4096:=by omega
    have h96b : ((ln : Int) == 4096) = false:=by simpa using h96i
    go_upto_region 10 with fail
    generalize (w2.alloc (.cells #[.int .i64 k,.bool neg,.slice A1 n1 c1,.int .i64 ex,.string t,.slice LA1 ln1 lc1,.slice KA kn kc] 28)) = w3 at *
    have hgr4:=HGR.out.keep (C:=fun _ => False) ((But.refl _ w3).alloc (.cells #[.int .i64 k,.bool neg,.slice A1 n1 c1,.int .i64 ex,.string t,.slice LA1 ln1 lc1,.slice KA kn kc] 28)) (fun k h => h.elim)
    obtain ⟨fs,hown,hf7,hft⟩:=hgr4
    rw [HLT.out] at hown hf7
    have hvl : ∀ k,(Value.slice LA ln lc).ownBlock = some k → k < wr.heap.size:=fun k hk => by
     obtain ⟨fs',hown',-⟩:=HG.out
     rw [HLT.out] at hown'
     exact (ownsRow_lt hown' hk).2
    have HVL:=Lib.hid hvl
    have HOWN:=Lib.hid hown
    have HF7:=Lib.hid hf7
    have HFT:=Lib.hid hft
    have HONE:=Lib.hid (show ∀ u ∈ ([.int .i64 k,.bool neg,.slice A1 n1 c1,.int .i64 ex,.string t,.slice LA1 ln1 lc1,.slice KA kn kc] : List Value),u.oneCell' = true from by simp [Value.oneCell'])
    have H24:=Lib.hid (show Below w2.heap.size w2 (w3.alloc (.cells #[.int .i64 k,.bool neg,.slice A1 n1 c1,.int .i64 ex,.string t,.slice LA1 ln1 lc1,.slice KA kn kc] 28)) from H23.out.alloc (by have:=HS3.out; omega) (.cells #[.int .i64 k,.bool neg,.slice A1 n1 c1,.int .i64 ex,.string t,.slice LA1 ln1 lc1,.slice KA kn kc] 28))
    have hb04:=HB3.out.alloc (by have:=HS3.out; have:=HB2.out.size; have:=HNW.out; omega) (.cells #[.int .i64 k,.bool neg,.slice A1 n1 c1,.int .i64 ex,.string t,.slice LA1 ln1 lc1,.slice KA kn kc] 28)
    have HB04:=Lib.hid hb04
    have HN4:=Lib.hid (show N ≤ (w3.alloc (.cells #[.int .i64 k,.bool neg,.slice A1 n1 c1,.int .i64 ex,.string t,.slice LA1 ln1 lc1,.slice KA kn kc] 28)).heap.size from by rw [World.size_alloc]; have:=HS3.out; have:=HB2.out.size; have:=HNW.out; omega)
    have HZ:=Lib.hid (new7 w3 (.int .i64 k) (.bool neg) (.slice A1 n1 c1) (.int .i64 ex) (.string t) (.slice LA1 ln1 lc1) (.slice KA kn kc) 28)
    have hln63 : ln < 4096:=by omega
    clear hown hf7 hft hvl hb04 h96i h96b h96
    go_wp2_with (at_builtin; refine wpList_append_own_at _ rfl (.tmp 39) (.tmp 41) _ rfl N 28 i7 (.agg #[.int .i64 0,.bool false,.slice none 0 0,.int .i64 0,.string ⟨#[]⟩,.slice none 0 0,.slice none 0 0]) 7 112 Tryz.underlying25 hi7 hp7 hq7 hr7 rfl (by decide) (.slice LA ln lc) ln (flatC fs id ln) rfl HOWN.out ⟨w3.heap.size,0,none⟩ 1 1 [.int .i64 k,.bool neg,.slice A1 n1 c1,.int .i64 ex,.string t,.slice LA1 ln1 lc1,.slice KA kn kc] rfl rfl HZ.out HONE.out (by unfold maxLen; omega) (by omega) HN4.out ?_; intro v' w5 hown5 hg5 _ hat5; obtain ⟨g',cap',rfl⟩:=ownsRow_succ hown5; have HOWN5:=Lib.hid hown5; have HG5:=Lib.hid hg5; have HAT5:=Lib.hid hat5; clear hown5 hg5 hat5)
    go_roundw
    case rel =>
     refine ⟨q,ln + 1,cap',some ⟨g',0,none⟩,rfl,rfl,by omega,by omega,HAT2.out,?_,?_⟩
     ·have htk : xs.take (ln + 1) = xs.take ln ++ [x]:=by rw [List.take_add_one,HX.out]; rfl
      show Grow _ _ _ _
      rw [htk]
      exact Grow.push (M:=wr.heap.size) (ob:=0) HLT.out HF7.out HFT.out HVL.out HNW.out H24.out HVI.out rfl HG5.out HAT5.out (But.refl _ _) (by have:=HN0.out; omega) HOWN5.out
     ·exact HB04.out.grown HG5.out HN4.out (fun k hk => (ownsRow_lt HOWN.out hk).1)
    case measure => simp [lenW]; omega
  ·have hend:=HAT.out.done hge
   have hle : xs.length = ln:=by omega
   have hnx:=rNextNo_c (A:=A) (c:=c) wr (HO.out wr HBEL.out) (by have:=HNW.out; omega) hfit hcap hpl hend
   have HNX:=Lib.hid hnx
   clear hnx hend
   go_wp2_with fail
   refine HNX.out.mono ?_
   rintro e w2 ⟨rfl,hb2⟩
   have HB2:=Lib.hid hb2
   clear hb2
   have HB3:=Lib.hid ((HBEL.out.trans (HB2.out.mono HNW.out)).alloc (by have:=HB2.out.size; have:=HNW.out; omega) (.cells #[.int .i64 0,.bool false,.slice none 0 0,.int .i64 0,.string ⟨#[]⟩,.slice none 0 0,.slice none 0 0] 28))
   have hgr:=HG.out.keep (C:=fun _ => False) ((But.of HB2.out).alloc (.cells #[.int .i64 0,.bool false,.slice none 0 0,.int .i64 0,.string ⟨#[]⟩,.slice none 0 0,.slice none 0 0] 28)) (fun k h => h.elim)
   have HGR:=Lib.hid hgr
   clear hgr
   have HLE:=Lib.hid hle
   clear hle
   go_wp2_with fail
   refine bodyPost_ret (v:=.tuple #[.slice LA ln lc,.int .i64 ((L.length : Nat) : Int),.int .i64 0]) (by simp [results,Tryz.results18,go_sem]) rfl ?_
   obtain ⟨h6,h7⟩:=HGR.out.rowW HLT.out (by omega)
   rw [show xs.take ln = xs by rw [← HLE.out,List.take_length]] at h6
   refine ⟨.inl ⟨by have:=HLE.out; omega,LA,lc,by rw [HLE.out],by rw [HLE.out]; exact h6,by rw [HLE.out]; exact h7⟩,HB3.out⟩
end Go.Proofs.YtkigpbkkhgabeaaGreatDoor
namespace Go.Proofs.YtkigpbkkhgabeaaGreatDoor
open Go.RowKit Go.Lib
theorem textBelow (w : World) (s : ByteArray) : Below w.heap.size w (Go.Lib.bytesWorld w 5 s) :=
 ⟨rfl,rfl,rfl,by rw [Go.Lib.bytesWorld_size]; omega,fun k hk => Go.Lib.bytesWorld_at_old _ _ _ _ hk⟩
theorem textOct (w : World) (L : List UInt8) : ∀ k x,L[k]? = some x → ∃ g off,(some ⟨w.heap.size,0,none⟩ : Option Addr) = some ⟨g,off,none⟩ ∧ g < w.heap.size + 1 ∧ (Go.Lib.bytesWorld w 5 ⟨L.toArray⟩).cell? ⟨g,off + k,none⟩ = some (.int .u8 (x.toNat : Int)):=fun k x hk => by
 have hl:=(List.getElem?_eq_some_iff.1 hk).1
 refine ⟨_,_,rfl,by omega,?_⟩
 have h:=Go.Lib.bytesWorld_cell w 5 ⟨L.toArray⟩ k (by show k < L.toArray.size; rw [List.size_toArray]; exact hl)
 rw [Nat.zero_add,h]
 show some (Value.int .u8 (((L.toArray.toList).getD k 0).toNat : Int)) = _
 rw [List.toList_toArray,List.getD_eq_getElem?_getD,hk]
 rfl
theorem textConv (w : World) (L : List UInt8) : (convert 9 38 (.string ⟨L.toArray⟩)).run Tryz.prog w = .ok (.slice (some ⟨w.heap.size,0,none⟩) L.length (grownCap w L.length 0 5)) (Go.Lib.bytesWorld w 5 ⟨L.toArray⟩):=by
 have h:=Go.Lib.run_convert_string_bytes (P:=Tryz.prog) w 9 38 5 ⟨L.toArray⟩ Tryz.underlying9 Tryz.underlying38 Tryz.underlying5
 have hs : (⟨L.toArray⟩ : ByteArray).size = L.length:=by show L.toArray.size = _; simp
 rw [hs] at h
 exact h
end Go.Proofs.YtkigpbkkhgabeaaGreatDoor
