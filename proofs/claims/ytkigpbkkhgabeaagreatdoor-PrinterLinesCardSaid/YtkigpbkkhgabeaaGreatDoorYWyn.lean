import Derived.Test.YtkigpbkkhgabeaaGreatDoorYWrt
set_option linter.unusedVariables false
set_option linter.unusedSimpArgs false
namespace Go.Proofs.YtkigpbkkhgabeaaGreatDoor
open Go.RowKit Go.Lib
set_option maxRecDepth 4000000 in
set_option maxHeartbeats 4000000 in
theorem rvalT_c {B : Nat} {L : List UInt8} {A : Option Addr} {c rb d n : Nat} {w : World} {p q : Nat} {t : ByteArray} (E : REnv B L A c rb w p) (hx : L[p]? = some 34) (h : rText L p = .ok t q) (hqL : q ≤ L.length) (hn : n < 4096) (hd : d ≤ 64) :
  Calls Tryz.prog 52 #[.pointer (some ⟨rb,0,none⟩),.int .i64 (d : Int),.int .i64 (n : Int)] w fun e w' => e = .returned (.agg #[.int .i64 4,.bool false,.slice none 0 0,.int .i64 0,.string t,.slice none 0 0,.slice none 0 0]) ∧ REnv B L A c rb w' q ∧ But (fun k => k = rb) w w':=by
 have mixed : Tryz.prog.follows .mixedOrders = true:=by kernel_rfl
 have hpl : p < L.length:=(List.getElem?_eq_some_iff.1 hx).1
 have hrl:=E.lt
 have hfit:=E.fits
 obtain ⟨rs,hrs⟩ : ∃ b,w.heap.size = b:=⟨_,rfl⟩
 have hb0 : But (fun _ => False) w (w.alloc (.cells #[.int .i64 0,.bool false,.slice none 0 0,.int .i64 0,.string ⟨#[]⟩,.slice none 0 0,.slice none 0 0] 28)):=(But.refl _ w).alloc _
 have hm:=World.alloc_heap_new w (.cells #[.int .i64 0,.bool false,.slice none 0 0,.int .i64 0,.string ⟨#[]⟩,.slice none 0 0,.slice none 0 0] 28)
 rw [hrs] at hm
 have hE0:=E.stay hb0 (fun k h => h.elim)
 have hpk:=rpeek_c hE0
 rw [nxt_of hx] at hpk
 have HPK:=Lib.hid hpk
 have HM:=Lib.hid hm
 have HB0:=Lib.hid hb0
 clear hpk E hm hb0
 go_enter Tryz.func52,Tryz.ntmps52
 go_wp2_with fail
 generalize (w.alloc (.cells #[.int .i64 0,.bool false,.slice none 0 0,.int .i64 0,.string ⟨#[]⟩,.slice none 0 0,.slice none 0 0] 28)) = w0 at *
 refine HPK.out.mono ?_
 rintro e9 w1 ⟨rfl,hb1⟩
 have hE1:=hE0.stay (C:=fun _ => False) hb1 (fun k h => h.elim)
 have hm1:=(hb1.block rs (Array.getElem?_eq_some_iff.1 HM.out).1 (fun h => h)).trans HM.out
 have hB1:=HB0.out.trans hb1
 obtain ⟨c0,c1,c2⟩:=hE1.cells
 have hne : ((n : Int) == 4096) = false:=by rw [beq_eq_false_iff_ne]; omega
 have HE1:=Lib.hid hE1
 have HM1:=Lib.hid hm1
 have HB1:=Lib.hid hB1
 clear hE0 hb1 hE1 hm1 hB1 HPK HM HB0
 go_upto_region 4 with fail
 go_region_o
 have hE2 : REnv B L A c rb w1.drew p:=HE1.out.stay (C:=fun _ => False) (But.refl _ _).drew (fun k h => h.elim)
 have hm2 : w1.drew.heap[rs]? = some (.cells #[.int .i64 0,.bool false,.slice none 0 0,.int .i64 0,.string ⟨#[]⟩,.slice none 0 0,.slice none 0 0] 28):=HM1.out
 have hB2 : But (fun _ => False) w w1.drew:=HB1.out.drew
 generalize w1.drew = w2 at *
 have htx:=rtext7_c hE2 h hpl hqL
 have HTX:=Lib.hid htx
 have HM2:=Lib.hid hm2
 have HB2:=Lib.hid hB2
 clear htx hE2 hm2 hB2 c0 c1 c2 HE1 HM1 HB1 h hx
 go_wp2_with fail
 refine HTX.out.mono ?_
 rintro e9 w3 ⟨rfl,hE3,hb3⟩
 have hm3:=(hb3.block rs (Array.getElem?_eq_some_iff.1 HM2.out).1 (by omega)).trans HM2.out
 obtain ⟨z0,z1,z2,z3,z4,z5,z6⟩:=box7_of hm3
 have fz : ∀ j,w3.frozen? ⟨rs,j,none⟩ = false:=fun j => frozen_of_row w3 _ j _ _ hm3
 have HM3:=Lib.hid hm3
 have HE3:=Lib.hid hE3
 have HB3:=Lib.hid ((HB2.out.mono (fun _ _ h => h.elim)).trans hb3)
 clear hm3 hE3 hb3 HTX
 go_wp2_with fail
 refine bodyPost_ret (v:=.agg #[.int .i64 4,.bool false,.slice none 0 0,.int .i64 0,.string t,.slice none 0 0,.slice none 0 0]) (by simp [results,Tryz.results52,go_sem,z0,z1,z2,z3,z4,z5,z6]) rfl ?_
 have hs1 : But (fun k => k = rs) w3 (((((((w3.setCell ⟨rs,0,none⟩ (.int .i64 4)).setCell ⟨rs,1,none⟩ (.bool false)).setCell ⟨rs,2,none⟩ (.slice none 0 0)).setCell ⟨rs,3,none⟩ (.int .i64 0)).setCell ⟨rs,4,none⟩ (.string t)).setCell ⟨rs,5,none⟩ (.slice none 0 0)).setCell ⟨rs,6,none⟩ (.slice none 0 0)):=(But.setCell (C:=fun k => k = rs) (p:=⟨rs,6,none⟩) (But.setCell (C:=fun k => k = rs) (p:=⟨rs,5,none⟩) (But.setCell (C:=fun k => k = rs) (p:=⟨rs,4,none⟩) (But.setCell (C:=fun k => k = rs) (p:=⟨rs,3,none⟩) (But.setCell (C:=fun k => k = rs) (p:=⟨rs,2,none⟩) (But.setCell (C:=fun k => k = rs) (p:=⟨rs,1,none⟩) (But.setCell (C:=fun k => k = rs) (p:=⟨rs,0,none⟩) (But.refl (fun k => k = rs) w3) (.inl rfl) (.int .i64 4)) (.inl rfl) (.bool false)) (.inl rfl) (.slice none 0 0)) (.inl rfl) (.int .i64 0)) (.inl rfl) (.string t)) (.inl rfl) (.slice none 0 0)) (.inl rfl) (.slice none 0 0))
 have hs2 : But (fun k => k = rb) w (((((((w3.setCell ⟨rs,0,none⟩ (.int .i64 4)).setCell ⟨rs,1,none⟩ (.bool false)).setCell ⟨rs,2,none⟩ (.slice none 0 0)).setCell ⟨rs,3,none⟩ (.int .i64 0)).setCell ⟨rs,4,none⟩ (.string t)).setCell ⟨rs,5,none⟩ (.slice none 0 0)).setCell ⟨rs,6,none⟩ (.slice none 0 0)):=(But.setCell (C:=fun k => k = rb) (p:=⟨rs,6,none⟩) (But.setCell (C:=fun k => k = rb) (p:=⟨rs,5,none⟩) (But.setCell (C:=fun k => k = rb) (p:=⟨rs,4,none⟩) (But.setCell (C:=fun k => k = rb) (p:=⟨rs,3,none⟩) (But.setCell (C:=fun k => k = rb) (p:=⟨rs,2,none⟩) (But.setCell (C:=fun k => k = rb) (p:=⟨rs,1,none⟩) (But.setCell (C:=fun k => k = rb) (p:=⟨rs,0,none⟩) HB3.out (.inr (by show w.heap.size ≤ rs; omega)) (.int .i64 4)) (.inr (by show w.heap.size ≤ rs; omega)) (.bool false)) (.inr (by show w.heap.size ≤ rs; omega)) (.slice none 0 0)) (.inr (by show w.heap.size ≤ rs; omega)) (.int .i64 0)) (.inr (by show w.heap.size ≤ rs; omega)) (.string t)) (.inr (by show w.heap.size ≤ rs; omega)) (.slice none 0 0)) (.inr (by show w.heap.size ≤ rs; omega)) (.slice none 0 0))
 have hbase:=HE3.out.base
 exact ⟨rfl,HE3.out.stay hs1 (fun k hk => by omega),hs2⟩
end Go.Proofs.YtkigpbkkhgabeaaGreatDoor
namespace Go.Proofs.YtkigpbkkhgabeaaGreatDoor
open Go.RowKit Go.Lib
def RvP (B : Nat) (L : List UInt8) (A : Option Addr) (c rb q : Nat) (a : VT) (w : World) (e : Ending) (w' : World) : Prop :=
 ∃ cs : List Value,e = .returned (.agg cs.toArray) ∧ VIn w' (fun b => w.heap.size ≤ b ∧ b < w'.heap.size) a cs ∧ REnv B L A c rb w' q ∧ But (fun k => k = rb) w w'
def RvOk (L : List UInt8) (p q : Nat) (a : VT) : Prop:=∀ (B : Nat) (A : Option Addr) (c rb : Nat) (w : World),REnv B L A c rb w p →
 Calls Tryz.prog 52 #[.pointer (some ⟨rb,0,none⟩),.int .i64 0,.int .i64 0] w (RvP B L A c rb q a w)
theorem put7_but {C : Nat → Prop} {a w : World} {b : Nat} (h : But C a w) (hb : C b ∨ a.heap.size ≤ b) (v0 v1 v2 v3 v4 v5 v6 : Value) : But C a (((((((w.setCell ⟨b,0,none⟩ v0).setCell ⟨b,1,none⟩ v1).setCell ⟨b,2,none⟩ v2).setCell ⟨b,3,none⟩ v3).setCell ⟨b,4,none⟩ v4).setCell ⟨b,5,none⟩ v5).setCell ⟨b,6,none⟩ v6) :=
 But.setCell (p:=⟨b,6,none⟩) (But.setCell (p:=⟨b,5,none⟩) (But.setCell (p:=⟨b,4,none⟩) (But.setCell (p:=⟨b,3,none⟩) (But.setCell (p:=⟨b,2,none⟩) (But.setCell (p:=⟨b,1,none⟩) (But.setCell (p:=⟨b,0,none⟩) h hb _) hb _) hb _) hb _) hb _) hb _) hb _
theorem vinText7 {w : World} {S : Nat → Prop} {t : ByteArray} (ht : t.size ≤ 140737488355328) : VIn w S (.mk 4 false [] 0 t [] []) [.int .i64 4,.bool false,.slice none 0 0,.int .i64 0,.string t,.slice none 0 0,.slice none 0 0] :=
 .mk (cs:=fun _ => []) (Rd.nil _ _ _) (by omega) ht ⟨rfl,fun h0 => absurd h0 (by omega)⟩ (by omega) rfl (by omega) (Nat.le_refl _) (fun h0 => absurd h0 (by omega)) (fun i x hi => by simp at hi)
set_option maxRecDepth 4000000 in
set_option maxHeartbeats 4000000 in
theorem rNextOk_c {B : Nat} {L : List UInt8} {A : Option Addr} {c p P q : Nat} {a : VT} (w : World) (hoct : ∀ k x,L[k]? = some x → ∃ g off,A = some ⟨g,off,none⟩ ∧ g < B ∧ w.cell? ⟨g,off + k,none⟩ = some (.int .u8 (x.toNat : Int))) (hB : B ≤ w.heap.size)
  (hfit : L.length ≤ 65536) (hcap : L.length ≤ c) (hp : p ≤ L.length) (hP : p + ((L.drop p).takeWhile isWs).length = P) (hne : P < L.length) (hv : RvOk L P q a) (hGd : Gd a) (hsz : (partsV a).length ≤ 16384) :
  Calls Tryz.prog 32 #[.slice A L.length c,.int .i64 (p : Int)] w fun e w' => ∃ cs : List Value,e = .returned (.tuple #[.agg cs.toArray,.int .i64 (q : Int),.bool true,.int .i64 0]) ∧ VIn w' (fun b => w.heap.size ≤ b ∧ b < w'.heap.size) a cs ∧ Below w.heap.size w w':=by
 obtain ⟨rs,hrs⟩ : ∃ b,w.heap.size = b:=⟨_,rfl⟩
 have hb0 : Below w.heap.size w (w.alloc (.cells #[.int .i64 0,.bool false,.slice none 0 0,.int .i64 0,.string ⟨#[]⟩,.slice none 0 0,.slice none 0 0] 28)):=(Below.refl _ w).alloc (Nat.le_refl _) _
 have hm:=World.alloc_heap_new w (.cells #[.int .i64 0,.bool false,.slice none 0 0,.int .i64 0,.string ⟨#[]⟩,.slice none 0 0,.slice none 0 0] 28)
 have hs0 : (w.alloc (.cells #[.int .i64 0,.bool false,.slice none 0 0,.int .i64 0,.string ⟨#[]⟩,.slice none 0 0,.slice none 0 0] 28)).heap.size = rs + 1:=by rw [World.size_alloc,hrs]
 have ho0 : ∀ k x,L[k]? = some x → ∃ g off,A = some ⟨g,off,none⟩ ∧ g < B ∧ (w.alloc (.cells #[.int .i64 0,.bool false,.slice none 0 0,.int .i64 0,.string ⟨#[]⟩,.slice none 0 0,.slice none 0 0] 28)).cell? ⟨g,off + k,none⟩ = some (.int .u8 (x.toNat : Int)):=fun k x hk => by
  obtain ⟨g,off,h1,h2,h3⟩:=hoct k x hk
  exact ⟨g,off,h1,h2,(hb0.cell (p:=⟨g,off + k,none⟩) (by show g < _; omega)).trans h3⟩
 rw [hrs] at hm hB hb0 ⊢
 have HM:=Lib.hid hm
 have HB0:=Lib.hid hb0
 have HO0:=Lib.hid ho0
 have HS0:=Lib.hid hs0
 have HV:=Lib.hid hv
 have HP:=Lib.hid hP
 clear hm hb0 ho0 hoct hs0 hv hP
 go_enter Tryz.func32,Tryz.ntmps32
 go_wp2_with fail
 try rw [hrs]
 clear hrs
 generalize (w.alloc (.cells #[.int .i64 0,.bool false,.slice none 0 0,.int .i64 0,.string ⟨#[]⟩,.slice none 0 0,.slice none 0 0] 28)) = w0 at *
 refine (rSpace_c w0 (fun j x h => by obtain ⟨g,off,h1,_,h3⟩:=HO0.out j x h; exact ⟨g,off,h1,h3⟩) hfit hp).mono ?_
 rintro e9 w1 ⟨rfl,rfl⟩
 rw [HP.out]
 have hE1 : REnv B L A c (rs + 1) (w0.alloc (.cells #[.slice A L.length c,.int .i64 (P : Int),.int .i64 0] 89)) P:=by
  have hbx : Below (rs + 1) w0 (w0.alloc (.cells #[.slice A L.length c,.int .i64 (P : Int),.int .i64 0] 89)):=(Below.refl _ w0).alloc (by rw [HS0.out]; omega) _
  refine ⟨?_,fun k x hk => ?_,by omega,hfit,by omega,hcap⟩
  ·have:=World.alloc_heap_new w0 (.cells #[.slice A L.length c,.int .i64 (P : Int),.int .i64 0] 89)
   rw [HS0.out] at this
   exact this
  ·obtain ⟨g,off,h1,h2,h3⟩:=HO0.out k x hk
   exact ⟨g,off,h1,h2,(hbx.cell (p:=⟨g,off + k,none⟩) (by show g < _; omega)).trans h3⟩
 have hm1:=(show Below (rs + 1) w0 (w0.alloc (.cells #[.slice A L.length c,.int .i64 (P : Int),.int .i64 0] 89)) from (Below.refl _ w0).alloc (by rw [HS0.out]; omega) _)
 obtain ⟨c0,c1,c2⟩:=hE1.cells
 have hnl : ((P : Int) == (L.length : Int)) = false:=by rw [beq_eq_false_iff_ne]; omega
 have hs0:=HS0.out
 have HM1:=Lib.hid hm1
 have HE1:=Lib.hid hE1
 clear hm1 hE1
 go_wp2_with fail
 have hv2:=HV.out B A c (rs + 1) _ HE1.out
 have hs2 : (w0.alloc (.cells #[.slice A L.length c,.int .i64 (P : Int),.int .i64 0] 89)).heap.size = rs + 2:=by rw [World.size_alloc,HS0.out]
 clear c0 c1 c2 hs0
 generalize (w0.alloc (.cells #[.slice A L.length c,.int .i64 (P : Int),.int .i64 0] 89)) = w1 at *
 refine hv2.mono ?_
 rintro e9 w2 ⟨cs,rfl,hx,hE2,hb2⟩
 obtain ⟨k1,neg1,xs1,e1,t1,li1,ks1,hak⟩ : ∃ k neg xs e t li ks,a = VT.mk k neg xs e t li ks:=by cases a; exact ⟨_,_,_,_,_,_,_,rfl⟩
 have hvb:=hx
 rw [hak] at hvb
 obtain ⟨A1,n1,c1',LA1,ln1,lc1,KA1,kn1,kc1,rfl,-⟩:=hvb.parts
 clear hvb hak hv2
 rw [hs2] at hx
 have hsz2 : rs + 2 ≤ w2.heap.size:=by have:=hb2.size; omega
 obtain ⟨tb,htb⟩ : ∃ b,w2.heap.size = b:=⟨_,rfl⟩
 have HX:=Lib.hid hx
 have HE2:=Lib.hid hE2
 have HB2:=Lib.hid hb2
 clear hx hE2 hb2
 obtain ⟨c0,c1,c2⟩:=HE2.out.cells
 go_upto_region 10 with fail
 have hb3 : Below tb w2 (w2.alloc (.cells #[.int .i64 k1,.bool neg1,.slice A1 n1 c1',.int .i64 e1,.string t1,.slice LA1 ln1 lc1,.slice KA1 kn1 kc1] 28)):=(Below.refl _ w2).alloc (Nat.le_of_eq htb.symm) _
 have hB3 : But (fun k => k = rs + 1) w1 (w2.alloc (.cells #[.int .i64 k1,.bool neg1,.slice A1 n1 c1',.int .i64 e1,.string t1,.slice LA1 ln1 lc1,.slice KA1 kn1 kc1] 28)):=HB2.out.alloc _
 have hE3:=HE2.out.stay (C:=fun _ => False) ((But.refl _ w2).alloc (.cells #[.int .i64 k1,.bool neg1,.slice A1 n1 c1',.int .i64 e1,.string t1,.slice LA1 ln1 lc1,.slice KA1 kn1 kc1] 28)) (fun k h => h.elim)
 have hm3:=World.alloc_heap_new w2 (.cells #[.int .i64 k1,.bool neg1,.slice A1 n1 c1',.int .i64 e1,.string t1,.slice LA1 ln1 lc1,.slice KA1 kn1 kc1] 28)
 have hx3:=(HX.out.keep (w':=w2.alloc (.cells #[.int .i64 k1,.bool neg1,.slice A1 n1 c1',.int .i64 e1,.string t1,.slice LA1 ln1 lc1,.slice KA1 kn1 kc1] 28)) fun p hp => hb3.cell (p:=p) (by have:=hp.2; omega)).more (S':=fun b => rs + 2 ≤ b ∧ b < tb) fun b h => ⟨h.1,by have:=h.2; omega⟩
 have hs3 : (w2.alloc (.cells #[.int .i64 k1,.bool neg1,.slice A1 n1 c1',.int .i64 e1,.string t1,.slice LA1 ln1 lc1,.slice KA1 kn1 kc1] 28)).heap.size = tb + 1:=by rw [World.size_alloc,htb]
 rw [htb] at hm3
 have HTB:=Lib.hid (show rs + 2 ≤ tb by omega)
 clear c0 c1 c2 HX HE2 HB2 hb3 hs2
 try rw [htb]
 clear htb hsz2
 generalize (w2.alloc (.cells #[.int .i64 k1,.bool neg1,.slice A1 n1 c1',.int .i64 e1,.string t1,.slice LA1 ln1 lc1,.slice KA1 kn1 kc1] 28)) = w3 at *
 obtain ⟨c0,c1,c2⟩:=hE3.cells
 obtain ⟨z0,z1,z2,z3,z4,z5,z6⟩:=box7_of hm3
 have hsi:=rsize_c (partsV a).length a _ _ w3 (Nat.le_refl _) hGd hsz hx3 (fun b h => by have:=h.2; omega)
 have hms : ((partsV a).length : Int) ≤ 16384:=by omega
 obtain ⟨M,hM⟩ : ∃ M,(partsV a).length = M:=⟨_,rfl⟩
 rw [hM] at hsi hms
 have HSI:=Lib.hid hsi
 have HX3:=Lib.hid hx3
 have HE3:=Lib.hid hE3
 have HM3:=Lib.hid hm3
 have HB3:=Lib.hid hB3
 have HS3:=Lib.hid hs3
 clear hsi hx3 hE3 hm3 hB3 hs3 hM hsz
 go_wp2_with fail
 refine HSI.out.mono ?_
 rintro e9 w4 ⟨rfl,hb4⟩
 rw [HS3.out] at hb4
 have hE4:=HE3.out.stay (C:=fun _ => False) ⟨hb4.os,hb4.tape,hb4.output,hb4.size,fun k hk _ => hb4.block k (by rw [HS3.out] at hk; exact hk)⟩ (fun k h => h.elim)
 have hm4:=(hb4.block tb (by omega)).trans HM3.out
 have hx4:=(HX3.out.keep (w':=w4) fun p hp => hb4.cell (p:=p) (by have:=hp.2; omega))
 have hsz4 : tb + 1 ≤ w4.heap.size:=by have:=hb4.size; rw [HS3.out] at this; omega
 clear c0 c1 c2 z0 z1 z2 z3 z4 z5 z6
 obtain ⟨c0,c1,c2⟩:=hE4.cells
 obtain ⟨z0,z1,z2,z3,z4,z5,z6⟩:=box7_of hm4
 have HB4:=Lib.hid hb4
 have HX4:=Lib.hid hx4
 clear hE4 hm4 hx4 hb4
 have htb2:=HTB.out
 have hmr : w4.heap[rs]? = _:=(HB4.out.block rs (by omega)).trans ((HB3.out.block rs (Nat.lt_of_lt_of_le (Array.getElem?_eq_some_iff.1 HM.out).1 HM1.out.size) (by omega)).trans ((HM1.out.block rs (by omega)).trans HM.out))
 obtain ⟨y0,y1,y2,y3,y4,y5,y6⟩:=box7_of hmr
 have fy : ∀ j,w4.frozen? ⟨rs,j,none⟩ = false:=fun j => frozen_of_row w4 _ j _ _ hmr
 have HMR:=Lib.hid hmr
 clear hmr
 have hrt : ¬ rs = tb:=by omega
 have htr : ¬ tb = rs:=by omega
 have hr1 : ¬ rs = rs + 1:=by omega
 have hr2 : ¬ rs + 1 = rs:=by omega
 go_upto_region 14 with fail
 refine wp_region_held_drew (S:=fun V => V.cell? ⟨tb,0,none⟩ = some (.int .i64 k1) ∧ V.cell? ⟨tb,1,none⟩ = some (.bool neg1) ∧ V.cell? ⟨tb,2,none⟩ = some (.slice A1 n1 c1') ∧ V.cell? ⟨tb,3,none⟩ = some (.int .i64 e1) ∧ V.cell? ⟨tb,4,none⟩ = some (.string t1) ∧ V.cell? ⟨tb,5,none⟩ = some (.slice LA1 ln1 lc1) ∧ V.cell? ⟨tb,6,none⟩ = some (.slice KA1 kn1 kc1) ∧ V.cell? ⟨rs + 1,1,none⟩ = some (.int .i64 (q : Int))) (by kernel_rfl) ⟨z0,z1,z2,z3,z4,z5,z6,c1⟩ (fun hHeld => ?_)
 (try simp only [List.size_toArray,List.length_cons,List.length_nil,Nat.reduceAdd,Array.replicate_succ,Array.replicate_zero,List.push_toArray,List.append_toArray,List.nil_append,List.cons_append])
 refine wpAnyH_take (i:=0) (oi:=⟨_,_,_,_,_,_⟩) (v:=?_) rfl (by kernel_rfl) (by kernel_rfl) (by kernel_rfl) (fun _ _ _ h => h) (Or.inl ⟨by rfl,?_⟩) (by assumption) ?_
 rotate_left
 ·intro w hSw
  (try dsimp only at hSw)
  go_split_ands
  go_simp
  try with_reducible rfl
 try simp only [Act.put,List.setIfInBounds_toArray,List.set_cons_zero,List.set_cons_succ]
 refine wpAnyH_take (i:=1) (oi:=⟨_,_,_,_,_,_⟩) (v:=?_) rfl (by kernel_rfl) (by kernel_rfl) (by kernel_rfl) (fun _ _ _ h => h) (Or.inl ⟨by rfl,?_⟩) (by assumption) ?_
 rotate_left
 ·intro w hSw
  (try dsimp only at hSw)
  go_split_ands
  go_simp
  try with_reducible rfl
 try simp only [Act.put,List.setIfInBounds_toArray,List.set_cons_zero,List.set_cons_succ]
 refine wpAnyH_take (i:=2) (oi:=⟨_,_,_,_,_,_⟩) (v:=?_) rfl (by kernel_rfl) (by kernel_rfl) (by kernel_rfl) (fun _ _ _ h => h) (Or.inl ⟨by rfl,?_⟩) (by assumption) ?_
 rotate_left
 ·intro w hSw
  (try dsimp only at hSw)
  go_split_ands
  go_simp
  try with_reducible rfl
 try simp only [Act.put,List.setIfInBounds_toArray,List.set_cons_zero,List.set_cons_succ]
 refine wpAnyH_take (i:=3) (oi:=⟨_,_,_,_,_,_⟩) (v:=?_) rfl (by kernel_rfl) (by kernel_rfl) (by kernel_rfl) (fun _ _ _ h => h) (Or.inl ⟨by rfl,?_⟩) (by assumption) ?_
 rotate_left
 ·intro w hSw
  (try dsimp only at hSw)
  go_split_ands
  go_simp
  try with_reducible rfl
 try simp only [Act.put,List.setIfInBounds_toArray,List.set_cons_zero,List.set_cons_succ]
 refine wpAnyH_take (i:=4) (oi:=⟨_,_,_,_,_,_⟩) (v:=?_) rfl (by kernel_rfl) (by kernel_rfl) (by kernel_rfl) (fun _ _ _ h => h) (Or.inl ⟨by rfl,?_⟩) (by assumption) ?_
 rotate_left
 ·intro w hSw
  (try dsimp only at hSw)
  go_split_ands
  go_simp
  try with_reducible rfl
 try simp only [Act.put,List.setIfInBounds_toArray,List.set_cons_zero,List.set_cons_succ]
 refine wpAnyH_ready (rs:=[5]) (by kernel_rfl) (by simp) (AllReadyH.cons (o:=⟨_,_,_,_,_,_⟩) rfl (fun K hK => ?_) AllReadyH.nil)
 go_simp
 have hset : But (fun k => k = rs) w4 ((((((((w4.setCell ⟨rs,0,none⟩ (.int .i64 k1)).setCell ⟨rs,1,none⟩ (.bool neg1)).setCell ⟨rs,2,none⟩ (.slice A1 n1 c1')).setCell ⟨rs,3,none⟩ (.int .i64 e1)).setCell ⟨rs,4,none⟩ (.string t1)).setCell ⟨rs,5,none⟩ (.slice LA1 ln1 lc1)).setCell ⟨rs,6,none⟩ (.slice KA1 kn1 kc1)).drew):=(But.setCell (C:=fun k => k = rs) (p:=⟨rs,6,none⟩) (But.setCell (C:=fun k => k = rs) (p:=⟨rs,5,none⟩) (But.setCell (C:=fun k => k = rs) (p:=⟨rs,4,none⟩) (But.setCell (C:=fun k => k = rs) (p:=⟨rs,3,none⟩) (But.setCell (C:=fun k => k = rs) (p:=⟨rs,2,none⟩) (But.setCell (C:=fun k => k = rs) (p:=⟨rs,1,none⟩) (But.setCell (C:=fun k => k = rs) (p:=⟨rs,0,none⟩) (But.refl (fun k => k = rs) w4) (.inl rfl) _) (.inl rfl) _) (.inl rfl) _) (.inl rfl) _) (.inl rfl) _) (.inl rfl) _) (.inl rfl) _).drew
 refine hK.out _ _ ⟨hset.cell_some z0 htr,hset.cell_some z1 htr,hset.cell_some z2 htr,hset.cell_some z3 htr,hset.cell_some z4 htr,hset.cell_some z5 htr,hset.cell_some z6 htr,hset.cell_some c1 hr2⟩ (fun hHeld2 => ?_)
 try simp only [Act.put,List.setIfInBounds_toArray,List.set_cons_zero,List.set_cons_succ]
 refine wpAnyH_take (i:=6) (oi:=⟨_,_,_,_,_,_⟩) (v:=?_) rfl (by kernel_rfl) (by kernel_rfl) (by kernel_rfl) (fun _ _ _ h => h) (Or.inl ⟨by rfl,?_⟩) (by assumption) ?_
 rotate_left
 ·intro w hSw
  (try dsimp only at hSw)
  go_split_ands
  go_simp
  try with_reducible rfl
 try simp only [Act.put,List.setIfInBounds_toArray,List.set_cons_zero,List.set_cons_succ]
 refine wpAnyH_take (i:=7) (oi:=⟨_,_,_,_,_,_⟩) (v:=?_) rfl (by kernel_rfl) (by kernel_rfl) (by kernel_rfl) (fun _ _ _ h => h) (Or.inl ⟨by rfl,?_⟩) (by assumption) ?_
 rotate_left
 ·intro w hSw
  (try dsimp only at hSw)
  go_split_ands
  go_simp
  try with_reducible rfl
 try simp only [Act.put,List.setIfInBounds_toArray,List.set_cons_zero,List.set_cons_succ]
 refine wpAnyH_take (i:=8) (oi:=⟨_,_,_,_,_,_⟩) (v:=?_) rfl (by kernel_rfl) (by kernel_rfl) (by kernel_rfl) (fun _ _ _ h => h) (Or.inl ⟨by rfl,?_⟩) (by assumption) ?_
 rotate_left
 ·intro w hSw
  (try dsimp only at hSw)
  go_split_ands
  go_simp
  try with_reducible rfl
 try simp only [Act.put,List.setIfInBounds_toArray,List.set_cons_zero,List.set_cons_succ]
 refine wpAnyH_done (by kernel_rfl) ?_ _
 have h7:=set_heap (i:=6) (u:=.slice KA1 kn1 kc1) (set_heap (i:=5) (u:=.slice LA1 ln1 lc1) (set_heap (i:=4) (u:=.string t1) (set_heap (i:=3) (u:=.int .i64 e1) (set_heap (i:=2) (u:=.slice A1 n1 c1') (set_heap (i:=1) (u:=.bool neg1) (set_heap (i:=0) (u:=.int .i64 k1) HMR.out))))))
 simp only [List.setIfInBounds_toArray,List.set_cons_zero,List.set_cons_succ] at h7
 clear hHeld hHeld2
 generalize (((((((w4.setCell ⟨rs,0,none⟩ (.int .i64 k1)).setCell ⟨rs,1,none⟩ (.bool neg1)).setCell ⟨rs,2,none⟩ (.slice A1 n1 c1')).setCell ⟨rs,3,none⟩ (.int .i64 e1)).setCell ⟨rs,4,none⟩ (.string t1)).setCell ⟨rs,5,none⟩ (.slice LA1 ln1 lc1)).setCell ⟨rs,6,none⟩ (.slice KA1 kn1 kc1)) = v5 at *
 have hms5 : v5.drew.heap[rs]? = _:=h7
 clear h7
 generalize v5.drew = w5 at *
 clear y0 y1 y2 y3 y4 y5 y6 z0 z1 z2 z3 z4 z5 z6 c0 c1 c2 fy
 obtain ⟨y0,y1,y2,y3,y4,y5,y6⟩:=box7_of hms5
 go_wp2_with fail
 refine bodyPost_ret (v:=.tuple #[.agg #[.int .i64 k1,.bool neg1,.slice A1 n1 c1',.int .i64 e1,.string t1,.slice LA1 ln1 lc1,.slice KA1 kn1 kc1],.int .i64 (q : Int),.bool true,.int .i64 0]) (by simp [results,Tryz.results32,go_sem,y0,y1,y2,y3,y4,y5,y6]) rfl ?_
 have hsz5 : w4.heap.size ≤ w5.heap.size:=hset.size
 have hz0:=(Array.getElem?_eq_some_iff.1 HM.out).1
 have b1 : Below rs w w1:=HB0.out.trans (HM1.out.mono (by omega))
 have b3 : Below rs w w3:=b1.trans (HB3.out.below (by have:=HM1.out.size; omega) (fun k hk e => by omega))
 have b4 : Below rs w w4:=b3.trans (HB4.out.mono (by omega))
 exact ⟨_,rfl,(HX4.out.keep (w':=w5) fun p hp => hset.cell (p:=p) (by have:=hp.2; omega) (fun e => by have:=hp.1; omega)).more fun b h => ⟨by omega,by have:=h.2; omega⟩,b4.trans (hset.below (by omega) (fun k hk e => by omega))⟩
end Go.Proofs.YtkigpbkkhgabeaaGreatDoor
namespace Go.Proofs.YtkigpbkkhgabeaaGreatDoor
open Go.RowKit Go.Lib
set_option maxRecDepth 4000000 in
set_option maxHeartbeats 4000000 in
theorem rNextNo_c {B : Nat} {L : List UInt8} {A : Option Addr} {c p : Nat} (w : World) (hoct : ∀ k x,L[k]? = some x → ∃ g off,A = some ⟨g,off,none⟩ ∧ g < B ∧ w.cell? ⟨g,off + k,none⟩ = some (.int .u8 (x.toNat : Int))) (hB : B ≤ w.heap.size)
  (hfit : L.length ≤ 65536) (hcap : L.length ≤ c) (hp : p ≤ L.length) (hP : p + ((L.drop p).takeWhile isWs).length = L.length) :
  Calls Tryz.prog 32 #[.slice A L.length c,.int .i64 (p : Int)] w fun e w' => e = .returned (.tuple #[.agg #[.int .i64 0,.bool false,.slice none 0 0,.int .i64 0,.string ⟨#[]⟩,.slice none 0 0,.slice none 0 0],.int .i64 0,.bool false,.int .i64 0]) ∧ Below w.heap.size w w':=by
 obtain ⟨rs,hrs⟩ : ∃ b,w.heap.size = b:=⟨_,rfl⟩
 have hb0 : Below w.heap.size w (w.alloc (.cells #[.int .i64 0,.bool false,.slice none 0 0,.int .i64 0,.string ⟨#[]⟩,.slice none 0 0,.slice none 0 0] 28)):=(Below.refl _ w).alloc (Nat.le_refl _) _
 have hm:=World.alloc_heap_new w (.cells #[.int .i64 0,.bool false,.slice none 0 0,.int .i64 0,.string ⟨#[]⟩,.slice none 0 0,.slice none 0 0] 28)
 have hs0 : (w.alloc (.cells #[.int .i64 0,.bool false,.slice none 0 0,.int .i64 0,.string ⟨#[]⟩,.slice none 0 0,.slice none 0 0] 28)).heap.size = rs + 1:=by rw [World.size_alloc,hrs]
 have ho0 : ∀ k x,L[k]? = some x → ∃ g off,A = some ⟨g,off,none⟩ ∧ g < B ∧ (w.alloc (.cells #[.int .i64 0,.bool false,.slice none 0 0,.int .i64 0,.string ⟨#[]⟩,.slice none 0 0,.slice none 0 0] 28)).cell? ⟨g,off + k,none⟩ = some (.int .u8 (x.toNat : Int)):=fun k x hk => by
  obtain ⟨g,off,h1,h2,h3⟩:=hoct k x hk
  exact ⟨g,off,h1,h2,(hb0.cell (p:=⟨g,off + k,none⟩) (by show g < _; omega)).trans h3⟩
 rw [hrs] at hm hB hb0 ⊢
 have HM:=Lib.hid hm
 have HB0:=Lib.hid hb0
 have HO0:=Lib.hid ho0
 have HS0:=Lib.hid hs0
 have HP:=Lib.hid hP
 clear hm hb0 ho0 hoct hs0 hP
 go_enter Tryz.func32,Tryz.ntmps32
 go_wp2_with fail
 try rw [hrs]
 clear hrs
 generalize (w.alloc (.cells #[.int .i64 0,.bool false,.slice none 0 0,.int .i64 0,.string ⟨#[]⟩,.slice none 0 0,.slice none 0 0] 28)) = w0 at *
 refine (rSpace_c w0 (fun j x h => by obtain ⟨g,off,h1,_,h3⟩:=HO0.out j x h; exact ⟨g,off,h1,h3⟩) hfit hp).mono ?_
 rintro e9 w1 ⟨rfl,rfl⟩
 rw [HP.out]
 have hm1:=World.alloc_heap_new w0 (.cells #[.slice A L.length c,.int .i64 (L.length : Int),.int .i64 0] 89)
 have hbx : Below (rs + 1) w0 (w0.alloc (.cells #[.slice A L.length c,.int .i64 (L.length : Int),.int .i64 0] 89)):=(Below.refl _ w0).alloc (by rw [HS0.out]; omega) _
 rw [HS0.out] at hm1
 have c1 : (w0.alloc (.cells #[.slice A L.length c,.int .i64 (L.length : Int),.int .i64 0] 89)).cell? ⟨rs + 1,1,none⟩ = some (.int .i64 (L.length : Int)):=cell_at3 hm1 rfl
 have hmr:=(hbx.block rs (by omega)).trans HM.out
 obtain ⟨y0,y1,y2,y3,y4,y5,y6⟩:=box7_of hmr
 have fy : ∀ j,(w0.alloc (.cells #[.slice A L.length c,.int .i64 (L.length : Int),.int .i64 0] 89)).frozen? ⟨rs,j,none⟩ = false:=fun j => frozen_of_row _ _ j _ _ hmr
 have hs0:=HS0.out
 have HBX:=Lib.hid hbx
 have HMR:=Lib.hid hmr
 clear hm1 hbx hmr
 go_upto_region 7 with fail
 generalize (w0.alloc (.cells #[.slice A L.length c,.int .i64 (L.length : Int),.int .i64 0] 89)) = w2 at *
 go_wp2_with fail
 refine bodyPost_ret (v:=.tuple #[.agg #[.int .i64 0,.bool false,.slice none 0 0,.int .i64 0,.string ⟨#[]⟩,.slice none 0 0,.slice none 0 0],.int .i64 0,.bool false,.int .i64 0]) (by simp [results,Tryz.results32,go_sem,y0,y1,y2,y3,y4,y5,y6]) rfl ?_
 exact ⟨rfl,below_seven (HB0.out.trans (HBX.out.mono (by omega))) (Nat.le_refl _) _ _ _ _ _ _ _⟩
end Go.Proofs.YtkigpbkkhgabeaaGreatDoor
