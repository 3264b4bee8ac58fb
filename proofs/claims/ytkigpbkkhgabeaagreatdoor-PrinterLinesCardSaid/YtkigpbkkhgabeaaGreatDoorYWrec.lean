import Derived.Test.YtkigpbkkhgabeaaGreatDoorYWrs
set_option linter.unusedVariables false
set_option linter.unusedSimpArgs false
namespace Go.Proofs.YtkigpbkkhgabeaaGreatDoor
open Go.RowKit Go.Lib
theorem rHex_more : ∀ (k u w : Nat) {M : List UInt8} {p n q : Nat},rHex k u M p = .ok n q → rHex k (u + w) M p = .ok (n + w * 16 ^ k) q
 | 0,u,w,M,p,n,q,h => by
  unfold rHex rPure at h ⊢
  injection h with h1 h2
  subst h1 h2
  simp
 | k + 1,u,w,M,p,n,q,h => by
  obtain ⟨c,d,h1,h2,h3⟩:=rHex_step h
  have h4:=rHex_more k (u * 16 + d) (w * 16) h3
  unfold rHex rAt rPeek
  rw [h1]
  simp only [RR.bind,h2]
  rw [show (u + w) * 16 + d = u * 16 + d + w * 16 by omega,h4,Nat.pow_succ,Nat.mul_assoc,Nat.mul_comm 16 (16 ^ k)]
theorem rHex_mk {k v p : Nat} {M : List UInt8} {c : UInt8} {d : Nat} {r : RR Nat} (h1 : M[p]? = some c) (h2 : hexOf c = some d) (h3 : rHex k (v * 16 + d) M (p + 1) = r) : rHex (k + 1) v M p = r:=by
 unfold rHex rAt rPeek
 rw [h1]
 simp only [RR.bind,h2]
 exact h3
theorem rHex_one {p n q : Nat} {M : List UInt8} (h : rHex 1 0 M p = .ok n q) : ∃ c,M[p]? = some c ∧ hexOf c = some n ∧ q = p + 1:=by
 obtain ⟨c,d,h1,h2,h3⟩:=rHex_step h
 unfold rHex rPure at h3
 injection h3 with h4 h5
 refine ⟨c,h1,?_,h5.symm⟩
 rw [h2,← h4]; simp
theorem rLow_out {f : Nat} {b : List UInt8} {p q z : Nat} (h : rLow f b p = .ok z q) : b[p]? = some 92 ∧ b[p + 1]? = some 117 ∧ q = p + 6 ∧ rHex 4 0 b (p + 2) = .ok z (p + 6) ∧ 56320 ≤ z ∧ z ≤ 57343:=by
 unfold rLow at h
 obtain ⟨c,q1,h1,h2⟩:=rAt_out h
 obtain ⟨p1,rfl⟩:=rPeek_out h1
 obtain ⟨u,q2,h3,h4⟩:=rAt_out h2
 obtain ⟨m1,rfl⟩:=rMust_out h3
 obtain ⟨d,q3,h5,h6⟩:=rAt_out (p:=q2 + 1) h4
 obtain ⟨p2,rfl⟩:=rPeek_out h5
 obtain ⟨u,q4,h7,h8⟩:=rAt_out h6
 obtain ⟨m2,rfl⟩:=rMust_out h7
 obtain ⟨x,q5,h9,h10⟩:=rAt_out (p:=q2 + 1 + 1) h8
 obtain ⟨c1,g1,g2,rfl⟩:=rHex_one h9
 obtain ⟨u,q6,h11,h12⟩:=rAt_out h10
 obtain ⟨m3,rfl⟩:=rMust_out h11
 obtain ⟨y,q7,h13,h14⟩:=rAt_out h12
 obtain ⟨c2,g3,g4,rfl⟩:=rHex_one h13
 obtain ⟨u,q8,h15,h16⟩:=rAt_out h14
 obtain ⟨m4,rfl⟩:=rMust_out h15
 obtain ⟨v,q9,h17,h18⟩:=rAt_out h16
 obtain ⟨g5,g6⟩:=rHex_at _ _ h17
 unfold rPure at h18
 injection h18 with h19 h20
 have hx : x = 13:=by simpa using m3
 have hy : 220 ≤ x * 16 + y:=by simpa using m4
 have hy16 : y < 16:=by rcases hexOf_cases g4 with h | h | h <;> omega
 have hc : c = 92:=by simpa using m1
 have hd : d = 117:=by simpa using m2
 subst hc hd
 refine ⟨p1,p2,by omega,?_,by omega,by omega⟩
 have h21:=rHex_more 2 0 (x * 16 + y) h17
 rw [Nat.zero_add] at h21
 have h22:=rHex_mk (v:=0 * 16 + x) (k:=2) g3 g4 (r:=.ok z (q2 + 6)) (by rw [show (0 * 16 + x) * 16 + y = x * 16 + y by omega,h21,← h19,g5]; congr 1; omega)
 exact rHex_mk g1 g2 h22
theorem rHex_drop : ∀ (k v a : Nat) {M : List UInt8} {p n q : Nat},rHex k v M (a + p) = .ok n q → rHex k v (M.drop a) p = .ok n (p + k)
 | 0,v,a,M,p,n,q,h => by
  unfold rHex rPure at h ⊢
  injection h with h1 h2
  subst h1
  rfl
 | k + 1,v,a,M,p,n,q,h => by
  obtain ⟨c,d,h1,h2,h3⟩:=rHex_step h
  have h4:=rHex_drop k (v * 16 + d) a (p:=p + 1) (by rw [← Nat.add_assoc]; exact h3)
  exact rHex_mk (by rw [List.getElem?_drop]; exact h1) h2 (by rw [h4]; congr 1; omega)
set_option maxRecDepth 4000000 in
set_option maxHeartbeats 4000000 in
theorem runi2_c {B : Nat} {L : List UInt8} {A : Option Addr} {c rb : Nat} {w : World} {p n z : Nat} (E : REnv B L A c rb w p) (h : rHex 4 0 L (p + 2) = .ok n (p + 6)) (hn : 55296 ≤ n) (hn2 : n < 56320) (h92 : L[p + 6]? = some 92) (h117 : L[p + 7]? = some 117) (hlow : rHex 4 0 L (p + 8) = .ok z (p + 12)) (hz1 : 56320 ≤ z) (hz2 : z ≤ 57343) (hq : p + 12 ≤ L.length) :
  Calls Tryz.prog 138 #[.pointer (some ⟨rb,0,none⟩)] w fun e w' => ∃ g m,e = .returned (.slice (some ⟨g,0,none⟩) m m) ∧ w.heap.size ≤ g ∧ RowV w' w.heap.size 5 (some ⟨g,0,none⟩) m m (bs8 (encodeRune (65536 + ((n : Int) - 55296) * 1024 + ((z : Int) - 56320)))) ∧ REnv B L A c rb w' (p + 12) ∧ But (fun k => k = rb) w w':=by
 have mixed : Tryz.prog.follows .mixedOrders = true:=by kernel_rfl
 obtain ⟨g,off,rfl,hgB,hc6⟩:=E.oct (p + 6) 92 h92
 obtain ⟨c0,c1,c2⟩:=E.cells
 have f1:=E.frozen 1
 have hfit:=E.fits
 have hcap:=E.cap
 have hbase:=E.base
 have hx:=rhex_c (cp:=c) w (fun j x hx => by obtain ⟨g,off,h1,h2,h3⟩:=E.oct j x hx; exact ⟨g,off,h1,h3⟩) hfit (by omega) (show rHex 4 0 L (p + 2) = .ok n (p + 2 + 4) from h)
 have HX:=Lib.hid hx
 have HE:=Lib.hid E
 have hch : isCh (65536 + ((n : Int) - 55296) * 1024 + ((z : Int) - 56320)):=by unfold isCh; omega
 clear E h hx
 go_enter Tryz.func138,Tryz.ntmps138
 go_wp2_with fail
 refine HX.out.mono ?_
 rintro e9 w1 ⟨rfl,rfl⟩
 have hE2:=HE.out.to (q:=p + 6) (by omega)
 have hb2 : But (fun k => k = rb) w (w.setCell ⟨rb,1,none⟩ (.int .i64 ((p + 6 : Nat) : Int))):=But.setCell (C:=fun k => k = rb) (p:=⟨rb,1,none⟩) (But.refl _ _) (.inl rfl) _
 have hs2 : (w.setCell ⟨rb,1,none⟩ (.int .i64 ((p + 6 : Nat) : Int))).heap.size = w.heap.size:=by simp [World.setCell]
 have e6 : ((p + 6 : Nat) : Int) = (p : Int) + 6:=by omega
 rw [e6] at hE2 hb2 hs2
 have HE2:=Lib.hid hE2
 have HB2:=Lib.hid hb2
 clear hE2 hb2 e6
 go_upto_region 13 with fail
 generalize (w.setCell ⟨rb,1,none⟩ (.int .i64 ((p : Int) + 6))) = w2 at *
 clear c0 c1 c2 f1 hc6
 obtain ⟨c0,c1,-⟩:=HE2.out.cells
 have f1:=HE2.out.frozen 1
 go_region_o
 have hld : (L.drop (p + 6)).length = L.length - (p + 6):=List.length_drop
 have hx2:=rhex_c (M:=L.drop (p + 6)) (A:=some ⟨g,off + (p + 6),none⟩) (cp:=c - (p + 6)) (i:=2) w2.drew
  (fun j x hx => by
   rw [List.getElem?_drop] at hx
   obtain ⟨g2,off2,hA,-,hcc⟩:=HE2.out.oct _ x hx
   injection hA with hA
   injection hA with hA1 hA2
   subst hA1 hA2
   refine ⟨g,off + (p + 6),rfl,?_⟩
   rw [show off + (p + 6) + j = off + (p + 6 + j) by omega]
   exact hcc) (by omega) (by omega) (rHex_drop 4 0 (p + 6) (p:=2) (by rw [show p + 6 + 2 = p + 8 by omega]; exact hlow))
 rw [hld] at hx2
 have k0 : w2.cell? ⟨g,off + (p + 6),none⟩ = some (.int .u8 92):=by
  obtain ⟨g2,off2,hA,-,hcc⟩:=HE2.out.oct _ _ h92
  injection hA with hA
  injection hA with hA1 hA2
  subst hA1 hA2
  exact hcc
 have k1 : w2.cell? ⟨g,off + (p + 6) + 1,none⟩ = some (.int .u8 117):=by
  obtain ⟨g2,off2,hA,-,hcc⟩:=HE2.out.oct _ _ h117
  injection hA with hA
  injection hA with hA1 hA2
  subst hA1 hA2
  rw [show off + (p + 6) + 1 = off + (p + 7) by omega]
  exact hcc
 have HX2:=Lib.hid hx2
 have HLD:=Lib.hid hld
 have hl6 : 6 ≤ L.length - (p + 6):=by omega
 have hcl : L.length - (p + 6) ≤ c - (p + 6):=by omega
 have hgt2 : (2 : Int) < ((L.length - (p + 6) : Nat) : Int):=by omega
 clear hx2 hld h92 h117 hlow
 go_wp2_with fail
 refine HX2.out.mono ?_
 rintro e9 w3 ⟨rfl,rfl⟩
 have hED : REnv B L (some ⟨g,off,none⟩) c rb w2.drew (p + 6):=HE2.out.stay (C:=fun _ => False) (But.refl _ _).drew (fun k h => h.elim)
 have hBD : But (fun k => k = rb) w w2.drew:=HB2.out.drew
 have hsD : w2.drew.heap.size = w.heap.size:=hs2
 have d0 : w2.drew.cell? ⟨g,off + (p + 6),none⟩ = some (.int .u8 92):=k0
 have d1 : w2.drew.cell? ⟨g,off + (p + 6) + 1,none⟩ = some (.int .u8 117):=k1
 generalize w2.drew = w4 at *
 clear c0 c1 f1 k0 k1
 obtain ⟨c0,c1,c2⟩:=hED.cells
 have f1:=hED.frozen 1
 have hE5:=hED.to (q:=p + 12) (by omega)
 have hb5 : But (fun k => k = rb) w4 (w4.setCell ⟨rb,1,none⟩ (.int .i64 ((p + 12 : Nat) : Int))):=But.setCell (C:=fun k => k = rb) (p:=⟨rb,1,none⟩) (But.refl _ _) (.inl rfl) _
 have hs5 : (w4.setCell ⟨rb,1,none⟩ (.int .i64 ((p + 12 : Nat) : Int))).heap.size = w4.heap.size:=by simp [World.setCell]
 have e12 : ((p + 12 : Nat) : Int) = (((p + 6 : Nat) : Int)) + 6:=by omega
 rw [e12] at hE5 hb5 hs5
 obtain ⟨R,hR⟩ : ∃ R,L.length - (p + 6) = R:=⟨_,rfl⟩
 rw [hR] at hl6 hcl hgt2 ⊢
 have hge2 : (2 : Int) ≤ (R : Int):=by omega
 have hi0 : (0 : Int) < (R : Int):=by omega
 have hi1 : (1 : Int) < (R : Int):=by omega
 have hne0 : ((R : Int) == 0) = false:=by rw [beq_eq_false_iff_ne]; omega
 have hne1 : ((R : Int) == 1) = false:=by rw [beq_eq_false_iff_ne]; omega
 have HE5:=Lib.hid hE5
 have HB5:=Lib.hid (hBD.trans hb5)
 clear hE5 hb5 hED hBD e12 HX2 HX HE HE2 HB2 HLD hR
 go_upto_region 17 with fail
 go_upto_region 18 with fail
 go_upto_region 20 with fail
 generalize (4 == Go.RowKit.wrap64 ((R : Int) - 2)) = b6
 have hzi1 : (56320 : Int) ≤ (z : Int):=by omega
 have hzi2 : (z : Int) ≤ 57343:=by omega
 have hcp : ((p + 6 : Nat) : Int) = (p : Int) + 6:=by omega
 have hez : (65536 + ((n : Int) - 55296) * 1024 + ((z : Int) - 56320)) = 65536 + ((n : Int) - 55296) * 1024 + (z : Int) - 56320:=by omega
 rw [hez] at hch
 have HEZ:=Lib.hid hez
 clear hez
 rw [hcp] at HE5 HB5 hs5
 go_wp2_with fail
 generalize (w4.setCell ⟨rb,1,none⟩ (.int .i64 ((p : Int) + 6 + 6))) = w5 at *
 refine (Octets_c _ w5 hch).mono ?_
 rintro e9 w6 ⟨m,rfl,hrow,hb6⟩
 have HROW:=Lib.hid hrow
 have HB6:=Lib.hid hb6
 clear hrow hb6
 go_wp2_with fail
 go_ret
 rw [HEZ.out]
 have hs9 : w5.heap.size = w.heap.size:=hs5.trans hsD
 try rw [hs9] at HROW
 exact ⟨_,m,rfl,Nat.le_refl _,HROW.out,HE5.out.stay (C:=fun _ => False) (But.of HB6.out) (fun k h => h.elim),HB5.out.trans (But.of HB6.out)⟩
end Go.Proofs.YtkigpbkkhgabeaaGreatDoor
namespace Go.Proofs.YtkigpbkkhgabeaaGreatDoor
open Go.RowKit Go.Lib
set_option maxRecDepth 100000 in
set_option maxHeartbeats 4000000 in
theorem rescN_c {B : Nat} {L : List UInt8} {A : Option Addr} {c rb : Nat} {w : World} {p : Nat} {d : UInt8} (E : REnv B L A c rb w p) (hd : L[p + 1]? = some d) {z : Int} (hx : ∃ i,i < 8 ∧ nth escN i = d.toNat ∧ (nth escO i : Int) = z ∧ ∀ j,j < i → nth escN j ≠ d.toNat) :
  Calls Tryz.prog 113 #[.pointer (some ⟨rb,0,none⟩)] w fun e w' => ∃ g m,e = .returned (.slice (some ⟨g,0,none⟩) m m) ∧ w.heap.size ≤ g ∧ RowV w' w.heap.size 5 (some ⟨g,0,none⟩) m m (bs8 (encodeRune z)) ∧ REnv B L A c rb w' (p + 2) ∧ But (fun k => k = rb) w w':=by
 have mixed : Tryz.prog.follows .mixedOrders = true:=by kernel_rfl
 obtain ⟨c0,c1,-⟩:=E.cells
 have hfit:=E.fits
 have hcap:=E.cap
 have hlt : p + 1 < L.length:=(List.getElem?_eq_some_iff.1 hd).1
 have HE:=Lib.hid E
 clear E
 go_enter Tryz.func113,Tryz.ntmps113
 go_upto_region 1 with fail
 go_region_o
 go_wp2_with fail
 obtain ⟨NS,hNS⟩ : ∃ NS,(⟨#[34,92,47,98,102,110,114,116]⟩ : ByteArray) = NS:=⟨_,rfl⟩
 obtain ⟨OS,hOS⟩ : ∃ OS,(⟨#[34,92,47,8,12,10,13,9]⟩ : ByteArray) = OS:=⟨_,rfl⟩
 have hns : NS.size = 8:=by rw [← hNS]; rfl
 have hos : OS.size = 8:=by rw [← hOS]; rfl
 have hnk : ∀ j (h : j < NS.size),NS[j].toNat = nth escN j:=by subst hNS; decide
 have hok : ∀ j (h : j < OS.size),OS[j].toNat = nth escO j:=by subst hOS; decide
 rw [hNS,hOS]
 have HNK:=Lib.hid hnk
 have HOK:=Lib.hid hok
 clear hNS hOS hnk hok c0 c1
 have hE0 : REnv B L A c rb w.drew p:=HE.out.stay (C:=fun _ => False) (But.refl _ w).drew (fun k h => h.elim)
 have hb0 : But (fun _ => False) w w.drew:=(But.refl _ w).drew
 go_loopw [5] (fun iv wr => ∃ k : Nat,k ≤ 8 ∧ iv = .int .i64 (k : Int) ∧ Hid (∀ j,j < k → nth escN j ≠ d.toNat) ∧ Hid (REnv B L A c rb wr p) ∧ Hid (But (fun _ => False) w wr)) (fun iv _ => 8 - (RowKit.intOf iv).toNat)
 case atStart => exact ⟨0,by omega,rfl,fun j hj => absurd hj (by omega),hE0,hb0⟩
 case round =>
  clear hE0 hb0
  obtain ⟨k,hk,rfl,hno,hE,hB⟩:=hrel
  obtain ⟨c0,c1,-⟩:=hE.out.cells
  have f1:=hE.out.frozen 1
  obtain ⟨g,off,rfl,-,hcd⟩:=hE.out.oct (p + 1) d hd
  by_cases hn2 : nth escN k = d.toNat
  ·have hk8 : k < 8:=by
    rcases Nat.lt_or_ge k 8 with h | h
    ·exact h
    ·exfalso
     obtain ⟨i,hi,h1,-,-⟩:=hx
     exact hno.out i (by omega) h1
   have hkn : k < NS.size:=by omega
   have hko : k < OS.size:=by omega
   have hnv:=HNK.out k hkn
   have hov:=HOK.out k hko
   have heq : ((d.toNat : Int) == (NS[k].toNat : Int)) = true:=by rw [beq_iff_eq,hnv,hn2]
   have hz : (nth escO k : Int) = z:=by
    obtain ⟨i,hi,h1,h2,h3⟩:=hx
    have hik : i = k:=by
     rcases Nat.lt_trichotomy i k with h | h | h
     ·exact absurd h1 (hno.out i h)
     ·exact h
     ·exact absurd hn2 (h3 k h)
    rw [← hik]; exact h2
   have hnk8 : (k : Int) < 8:=by omega
   clear hx hno
   go_upto_region 8 with fail
   go_region_o
   have hE2:=hE.out.to (q:=p + 2) (by omega)
   have e2 : ((p + 2 : Nat) : Int) = (p : Int) + 2:=by omega
   rw [e2] at hE2
   have HE2:=Lib.hid hE2
   have hzr : 0 ≤ z ∧ z < 128:=by
    have h9 : ∀ k,k < 8 → nth escO k < 128:=by decide
    have:=h9 k hk8
    omega
   have hbs : bs8 (encodeRune z) = [.int .u8 z]:=by
    rw [enc_low hzr.1 hzr.2]
    unfold bs8
    rw [List.map_cons,List.map_nil,u8_of hzr.1 (by omega)]
    rw [show ((z.toNat : Nat) : Int) = z by omega]
   have hsz : (wr.setCell ⟨rb,1,none⟩ (.int .i64 ((p : Int) + 2))).heap.size = wr.heap.size:=by simp [World.setCell]
   have HBS:=Lib.hid hbs
   clear hE2 e2 hbs
   go_wp2
   go_ret
   rw [HBS.out]
   have hlit:=RowV.lit (wr.setCell ⟨rb,1,none⟩ (.int .i64 ((p : Int) + 2))) 5 [.int .u8 z] 1 rfl (by omega)
   rw [hsz] at hlit
   have hbA : But (fun _ => False) (wr.setCell ⟨rb,1,none⟩ (.int .i64 ((p : Int) + 2))) (((wr.setCell ⟨rb,1,none⟩ (.int .i64 ((p : Int) + 2))).alloc (.cells #[.int .u8 z] 5)).drew):=((But.refl _ _).alloc _).drew
   refine ⟨_,1,rfl,hB.out.size,hlit.drew.more hB.out.size,HE2.out.stay hbA (fun k h => h.elim),?_⟩
   have hb1 : But (fun k => k = rb) wr (wr.setCell ⟨rb,1,none⟩ (.int .i64 ((p : Int) + 2))):=But.setCell (C:=fun k => k = rb) (p:=⟨rb,1,none⟩) (But.refl _ _) (.inl rfl) _
   exact ((hB.out.mono (fun _ _ h => h.elim)).trans hb1).trans (hbA.mono (fun _ _ h => h.elim))
  ·have hk8 : k < 8:=by
    rcases Nat.lt_or_ge k 8 with h | h
    ·exact h
    ·exfalso
     obtain ⟨i,hi,h1,-,-⟩:=hx
     exact hno.out i (by omega) h1
   have hkn : k < NS.size:=by omega
   have hnv:=HNK.out k hkn
   have hne : ((d.toNat : Int) == (NS[k].toNat : Int)) = false:=by rw [beq_eq_false_iff_ne,hnv]; intro e; exact hn2 (by omega)
   have hno2 : Hid (∀ j,j < k + 1 → nth escN j ≠ d.toNat):=fun j hj => by
    rcases Nat.lt_or_ge j k with h | h
    ·exact hno.out j h
    ·have : j = k:=by omega
     subst this; exact hn2
   have hnk8 : (k : Int) < 8:=by omega
   go_upto_region 8 with fail
   go_region_o
   go_wp2
   go_roundw
   case rel => exact ⟨k + 1,by omega,by go_num,hno2,hE.out.stay (C:=fun _ => False) (But.refl _ _).drew (fun k h => h.elim),hB.out.drew⟩
   case measure => simp [RowKit.intOf]; omega
set_option maxRecDepth 100000 in
set_option maxHeartbeats 4000000 in
theorem rescG_c {B : Nat} {L : List UInt8} {A : Option Addr} {c rb : Nat} {w : World} {p : Nat} {d : UInt8} (E : REnv B L A c rb w p) (hd : L[p + 1]? = some d) {z : Int} {q : Nat} (h117 : d.toNat = 117) (hu : ∀ w1,REnv B L A c rb w1 p → Calls Tryz.prog 138 #[.pointer (some ⟨rb,0,none⟩)] w1 fun e w2 => ∃ g m,e = .returned (.slice (some ⟨g,0,none⟩) m m) ∧ w1.heap.size ≤ g ∧ RowV w2 w1.heap.size 5 (some ⟨g,0,none⟩) m m (bs8 (encodeRune z)) ∧ REnv B L A c rb w2 q ∧ But (fun k => k = rb) w1 w2) :
  Calls Tryz.prog 113 #[.pointer (some ⟨rb,0,none⟩)] w fun e w' => ∃ g m,e = .returned (.slice (some ⟨g,0,none⟩) m m) ∧ w.heap.size ≤ g ∧ RowV w' w.heap.size 5 (some ⟨g,0,none⟩) m m (bs8 (encodeRune z)) ∧ REnv B L A c rb w' (q) ∧ But (fun k => k = rb) w w':=by
 have mixed : Tryz.prog.follows .mixedOrders = true:=by kernel_rfl
 obtain ⟨c0,c1,-⟩:=E.cells
 have hfit:=E.fits
 have hcap:=E.cap
 have hlt : p + 1 < L.length:=(List.getElem?_eq_some_iff.1 hd).1
 have HE:=Lib.hid E
 clear E
 go_enter Tryz.func113,Tryz.ntmps113
 go_upto_region 1 with fail
 go_region_o
 go_wp2_with fail
 obtain ⟨NS,hNS⟩ : ∃ NS,(⟨#[34,92,47,98,102,110,114,116]⟩ : ByteArray) = NS:=⟨_,rfl⟩
 obtain ⟨OS,hOS⟩ : ∃ OS,(⟨#[34,92,47,8,12,10,13,9]⟩ : ByteArray) = OS:=⟨_,rfl⟩
 have hns : NS.size = 8:=by rw [← hNS]; rfl
 have hos : OS.size = 8:=by rw [← hOS]; rfl
 have hnk : ∀ j (h : j < NS.size),NS[j].toNat = nth escN j:=by subst hNS; decide
 have hok : ∀ j (h : j < OS.size),OS[j].toNat = nth escO j:=by subst hOS; decide
 rw [hNS,hOS]
 have HNK:=Lib.hid hnk
 have HOK:=Lib.hid hok
 clear hNS hOS hnk hok c0 c1
 have hE0 : REnv B L A c rb w.drew p:=HE.out.stay (C:=fun _ => False) (But.refl _ w).drew (fun k h => h.elim)
 have hb0 : But (fun _ => False) w w.drew:=(But.refl _ w).drew
 go_loopw [5] (fun iv wr => ∃ k : Nat,k ≤ 8 ∧ iv = .int .i64 (k : Int) ∧ Hid (∀ j,j < k → nth escN j ≠ d.toNat) ∧ Hid (REnv B L A c rb wr p) ∧ Hid (But (fun _ => False) w wr)) (fun iv _ => 8 - (RowKit.intOf iv).toNat)
 case atStart => exact ⟨0,by omega,rfl,fun j hj => absurd hj (by omega),hE0,hb0⟩
 case round =>
  clear hE0 hb0
  obtain ⟨k,hk,rfl,hno,hE,hB⟩:=hrel
  obtain ⟨c0,c1,-⟩:=hE.out.cells
  have f1:=hE.out.frozen 1
  obtain ⟨g,off,rfl,-,hcd⟩:=hE.out.oct (p + 1) d hd
  have hn2 : nth escN k ≠ d.toNat ∨ k = 8:=by
   rcases Nat.lt_or_ge k 8 with h | h
   ·left
    rw [h117]
    have h9 : ∀ k,k < 8 → nth escN k ≠ 117:=by decide
    exact h9 k h
   ·right; omega
  by_cases hk8 : k < 8
  ·replace hn2 : nth escN k ≠ d.toNat:=hn2.resolve_right (by omega)
   have hkn : k < NS.size:=by omega
   have hnv:=HNK.out k hkn
   have hne : ((d.toNat : Int) == (NS[k].toNat : Int)) = false:=by rw [beq_eq_false_iff_ne,hnv]; intro e; exact hn2 (by omega)
   have hno2 : Hid (∀ j,j < k + 1 → nth escN j ≠ d.toNat):=fun j hj => by
    rcases Nat.lt_or_ge j k with h | h
    ·exact hno.out j h
    ·have : j = k:=by omega
     subst this; exact hn2
   have hnk8 : (k : Int) < 8:=by omega
   go_upto_region 8 with fail
   go_region_o
   go_wp2
   go_roundw
   case rel => exact ⟨k + 1,by omega,by go_num,hno2,hE.out.stay (C:=fun _ => False) (But.refl _ _).drew (fun k h => h.elim),hB.out.drew⟩
   case measure => simp [RowKit.intOf]; omega
  ·obtain rfl : k = 8:=by omega
   have e117 : ((d.toNat : Int) == 117) = true:=by rw [beq_iff_eq,h117]; rfl
   clear hn2 hno
   go_upto_region 11 with fail
   go_region_o
   have hEW : REnv B L (some ⟨g,off,none⟩) c rb wr.drew p:=hE.out.stay (C:=fun _ => False) (But.refl _ _).drew (fun k h => h.elim)
   have HU:=Lib.hid (hu _ hEW)
   have HW:=Lib.hid (hB.out.drew (C:=fun _ => False))
   clear hu hEW
   go_wp2_with fail
   refine HU.out.mono ?_
   rintro e9 w2 ⟨g2,m,rfl,hg2,hrow,hE3,hb3⟩
   have HROW:=Lib.hid hrow
   have HE3:=Lib.hid hE3
   have HB3:=Lib.hid hb3
   clear hrow hE3 hb3
   go_wp2_with fail
   go_ret
   exact ⟨g2,m,rfl,Nat.le_trans HW.out.size hg2,HROW.out.more HW.out.size,HE3.out,(HW.out.mono (fun _ _ h => h.elim)).trans HB3.out⟩
theorem resc_c {B : Nat} {L : List UInt8} {A : Option Addr} {c rb : Nat} {w : World} {p q : Nat} {z : Int} (E : REnv B L A c rb w p) (h : rEscape L p = .ok z q) (hq : q ≤ L.length) :
  Calls Tryz.prog 113 #[.pointer (some ⟨rb,0,none⟩)] w fun e w' => ∃ g m,e = .returned (.slice (some ⟨g,0,none⟩) m m) ∧ w.heap.size ≤ g ∧ RowV w' w.heap.size 5 (some ⟨g,0,none⟩) m m (bs8 (encodeRune z)) ∧ REnv B L A c rb w' q ∧ But (fun k => k = rb) w w':=by
 unfold rEscape at h
 obtain ⟨d,q1,h1,h2⟩:=rAt_out (p:=p + 1) h
 obtain ⟨hd,rfl⟩:=rPeek_out h1
 by_cases hu : d == 117
 ·rw [if_pos hu] at h2
  have hd2 : d = 117:=by simpa using hu
  subst hd2
  refine rescG_c E hd (z:=z) (q:=q) rfl fun w1 E1 => ?_
  have h3 : rCoded p L (p + 2) = .ok z q:=h2
  unfold rCoded at h3
  obtain ⟨n,q1,h4,h5⟩:=rAt_out h3
  obtain ⟨rfl,g2⟩:=rHex_at _ _ h4
  split at h5
  ·rename_i hn
   unfold rPure at h5
   injection h5 with h6 h7
   subst h6 h7
   exact runi_c E1 h4 hn (by omega) hq
  ·split at h5
   ·cases h5
   ·rename_i hn1 hn2
    obtain ⟨v,q3,h6,h7⟩:=rAt_out h5
    obtain ⟨l1,l2,rfl,l4,l5,l6⟩:=rLow_out h6
    unfold rPure at h7
    injection h7 with h8 h9
    subst h8 h9
    exact runi2_c E1 h4 (by omega) (by omega) l1 l2 l4 l5 l6 hq
 ·rw [if_neg hu] at h2
  cases ho : escOf d with
  | none => rw [ho] at h2; cases h2
  | some x =>
   rw [ho] at h2
   injection h2 with h3 h4
   subst h3 h4
   exact rescN_c E hd (escOf_out ho)
end Go.Proofs.YtkigpbkkhgabeaaGreatDoor
