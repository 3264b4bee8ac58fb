import Derived.Test.YtkigpbkkhgabeaaGreatDoorYWrb
import Derived.Test.YtkigpbkkhgabeaaGreatDoorYWen
set_option linter.unusedVariables false
set_option linter.unusedSimpArgs false
namespace Go.Proofs.YtkigpbkkhgabeaaGreatDoor
open Go.RowKit Go.Lib
variable {L : List UInt8}
theorem peek7 {p q : Nat} {x : UInt8} (h : rPeek L p = .ok x q) : q = p ∧ L[p]? = some x ∧ p < L.length:=by
 unfold rPeek at h
 cases hx : L[p]? with
 | none => rw [hx] at h; cases h
 | some y =>
  rw [hx] at h
  injection h with h1 h2
  subst h1
  exact ⟨h2.symm,rfl,(List.getElem?_eq_some_iff.1 hx).1⟩
theorem digits7 {p q : Nat} (h : rDigits L p = .ok () q) : p < q ∧ q ≤ L.length:=by
 obtain ⟨c,hc,-,hq,hlt⟩:=digits_got h
 have hl:=(List.getElem?_eq_some_iff.1 hc).1
 have:=(List.takeWhile_sublist (l:=L.drop p) isDg).length_le
 rw [List.length_drop] at this
 omega
theorem skip7 {f : UInt8 → Bool} {p q : Nat} {z : Bool} (h : rSkip f L p = .ok z q) (hp : p ≤ L.length) : p ≤ q ∧ q ≤ L.length ∧ (z = true → p < q):=by
 rcases skip_got h with ⟨-,rfl,c,hc,-⟩ | ⟨rfl,rfl,-⟩
 ·have:=(List.getElem?_eq_some_iff.1 hc).1
  exact ⟨by omega,by omega,fun _ => by omega⟩
 ·exact ⟨by omega,hp,fun h => by cases h⟩
theorem up_numeral {p q : Nat} (hp : p ≤ L.length) (h : rNumeral L p = .ok () q) : p < q ∧ q ≤ L.length:=by
 obtain ⟨z0,p1,h1,h⟩:=bind_ok h
 obtain ⟨z1,p2,h2,h⟩:=bind_ok h
 obtain ⟨u3,p3,h3,h⟩:=bind_ok h
 obtain ⟨z4,p4,h4,h⟩:=bind_ok h
 obtain ⟨u5,p5,h5,h⟩:=bind_ok h
 obtain ⟨z6,p6,h6,h7⟩:=bind_ok h
 have s1:=skip7 h1 hp
 have s2:=skip7 h2 s1.2.1
 have s3 : p2 ≤ p3 ∧ p3 ≤ L.length ∧ (z1 = false → p2 < p3):=by
  cases z1 with
  | true => rw [if_pos rfl] at h3; unfold rPure at h3; injection h3 with _ h3; exact ⟨by omega,by omega,fun h => by cases h⟩
  | false => rw [if_neg (by decide)] at h3; have:=digits7 h3; exact ⟨by omega,by omega,fun _ => by omega⟩
 have s4:=skip7 h4 s3.2.1
 have s5 : p4 ≤ p5 ∧ p5 ≤ L.length:=by
  cases z4 with
  | true => rw [if_pos rfl] at h5; have:=digits7 h5; omega
  | false => rw [if_neg (by decide)] at h5; unfold rPure at h5; injection h5 with _ h5; omega
 have s6:=skip7 h6 s5.2
 have s7 : p6 ≤ q ∧ q ≤ L.length:=by
  cases z6 with
  | true =>
   rw [if_pos rfl] at h7
   obtain ⟨z8,p8,h8,h9⟩:=bind_ok h7
   have s8:=skip7 h8 s6.2.1
   have:=digits7 h9
   omega
  | false => rw [if_neg (by decide)] at h7; unfold rPure at h7; injection h7 with _ h7; omega
 have h12 : p < p3:=by
  cases hz : z1 with
  | true => have:=s2.2.2 hz; omega
  | false => have:=s3.2.2 hz; omega
 omega
theorem up_word : ∀ {s : List UInt8} {p q : Nat},rWord s L p = .ok () q → p ≤ L.length → p + s.length = q ∧ q ≤ L.length
 | [],p,q,h,hp => by
  obtain ⟨rfl,-⟩:=rWord_nil h
  exact ⟨rfl,hp⟩
 | x :: r,p,q,h,hp => by
  obtain ⟨h1,h2⟩:=rWord_cons h
  have hl:=(List.getElem?_eq_some_iff.1 h1).1
  have:=up_word h2 (by omega)
  rw [List.length_cons]
  omega
theorem up_hex : ∀ {k n p q z : Nat},rHex k n L p = .ok z q → p ≤ L.length → p + k = q ∧ q ≤ L.length
 | 0,n,p,q,z,h,hp => by
  unfold rHex rPure at h
  injection h with _ h
  subst h
  exact ⟨rfl,hp⟩
 | k + 1,n,p,q,z,h,hp => by
  unfold rHex at h
  obtain ⟨x,p1,h1,h2⟩:=bind_ok h
  obtain ⟨rfl,-,hl⟩:=peek7 h1
  cases hx : hexOf x with
  | none => rw [hx] at h2; cases h2
  | some d =>
   rw [hx] at h2
   have:=up_hex (k:=k) (p:=p1 + 1) h2 (by omega)
   omega
theorem must7 {f p q : Nat} {b : Bool} (h : rMust f b L p = .ok () q) : q = p:=by
 unfold rMust at h
 split at h
 ·injection h with _ h; exact h.symm
 ·cases h
theorem up_low {f p q z : Nat} (h : rLow f L p = .ok z q) : p < q ∧ q ≤ L.length:=by
 unfold rLow at h
 obtain ⟨c,p1,h1,g1⟩:=bind_ok h
 have e1:=peek7 h1
 obtain ⟨u,p2,h2,g2⟩:=bind_ok g1
 have e2:=must7 h2
 obtain ⟨d,p3,h3,g3⟩:=bind_ok g2
 have e3:=peek7 h3
 obtain ⟨u2,p4,h4,g4⟩:=bind_ok g3
 have e4:=must7 h4
 obtain ⟨x,p5,h5,g5⟩:=bind_ok g4
 have a5:=up_hex h5 (by omega)
 obtain ⟨u3,p6,h6,g6⟩:=bind_ok g5
 have e6:=must7 h6
 obtain ⟨y,p7,h7,g7⟩:=bind_ok g6
 have a7:=up_hex h7 (by omega)
 obtain ⟨u4,p8,h8,g8⟩:=bind_ok g7
 have e8:=must7 h8
 obtain ⟨z2,p9,h9,g9⟩:=bind_ok g8
 have a9:=up_hex h9 (by omega)
 unfold rPure at g9
 injection g9 with _ g9
 omega
theorem up_coded {f p q : Nat} {z : Int} (h : rCoded f L p = .ok z q) (hp : p ≤ L.length) : p < q ∧ q ≤ L.length:=by
 unfold rCoded at h
 obtain ⟨n,p1,h1,h2⟩:=bind_ok h
 have a1:=up_hex h1 hp
 split at h2
 ·unfold rPure at h2; injection h2 with _ h2; omega
 ·split at h2
  ·cases h2
  ·obtain ⟨y,p2,h3,h4⟩:=bind_ok h2
   have a3:=up_low h3
   unfold rPure at h4
   injection h4 with _ h4
   omega
theorem up_escape {p q : Nat} {z : Int} (h : rEscape L p = .ok z q) : p < q ∧ q ≤ L.length:=by
 unfold rEscape at h
 obtain ⟨c,p1,h1,h2⟩:=bind_ok h
 obtain ⟨rfl,-,hl⟩:=peek7 h1
 split at h2
 ·have:=up_coded (p:=p + 1 + 1) h2 (by omega)
  omega
 ·cases hx : escOf c with
  | none => rw [hx] at h2; cases h2
  | some y =>
   rw [hx] at h2
   injection h2 with _ h2
   omega
theorem up_char {p q : Nat} {z : Int} (h : rChar L p = .ok z q) : p < q ∧ q ≤ L.length:=by
 unfold rChar at h
 obtain ⟨c,p1,h1,h2⟩:=bind_ok h
 obtain ⟨rfl,-,hl⟩:=peek7 h1
 split at h2
 ·exact up_escape h2
 ·split at h2
  ·cases h2
  ·simp only [] at h2
   split at h2
   ·split at h2
    ·cases h2
    ·injection h2 with _ h2
     have h3:=wid_ge (L.drop p1)
     have h4:=wid_le (l:=L.drop p1) (fun e => by rw [List.drop_eq_nil_iff] at e; omega)
     rw [List.length_drop] at h4
     omega
   ·cases h2
theorem up_chars : ∀ {n : Nat} {acc t : List UInt8} {p q : Nat},rChars n acc L p = .ok t q → p < q ∧ q ≤ L.length
 | 0,acc,t,p,q,h => by cases h
 | n + 1,acc,t,p,q,h => by
  unfold rChars at h
  obtain ⟨c,p1,h1,h2⟩:=bind_ok h
  obtain ⟨rfl,-,hl⟩:=peek7 h1
  split at h2
  ·injection h2 with _ h2; omega
  ·obtain ⟨x,p2,h3,h4⟩:=bind_ok h2
   have a3:=up_char h3
   have a4:=up_chars h4
   omega
theorem up_text {p q : Nat} {t : ByteArray} (h : rText L p = .ok t q) : p < q ∧ q ≤ L.length:=by
 unfold rText at h
 cases hc : rChars fuelR [] L (p + 1) with
 | bad a b => rw [hc] at h; cases h
 | ok s r =>
  rw [hc] at h
  simp only [RR.bind] at h
  have:=up_chars hc
  split at h
  ·cases h
  ·injection h with _ h; omega
end Go.Proofs.YtkigpbkkhgabeaaGreatDoor
namespace Go.Proofs.YtkigpbkkhgabeaaGreatDoor
open Go.RowKit Go.Lib
variable {B : Nat} {L : List UInt8} {A : Option Addr} {c rb : Nat}
theorem rNumber_ok {p q : Nat} {a : VT} (h : rNumber L p = .ok a q) : rNumeral L p = .ok () q ∧ fE (cutN L p q) = 0 ∧ rApart L q = .ok () q ∧ a = numV (cutN L p q):=by
 unfold rNumber at h
 cases h1 : rNumeral L p with
 | bad x y => rw [h1] at h; cases h
 | ok u q1 =>
  rw [h1] at h
  simp only [RR.bind] at h
  split at h
  ·rename_i h0
   cases h2 : rApart L q1 with
   | bad x y => rw [h2] at h; cases h
   | ok v r =>
    rw [h2] at h
    simp only [RR.bind] at h
    injection h with e1 e2
    have h3:=h2
    unfold rApart at h3
    have hr : r = q1:=by
     cases hx : L[q1]? with
     | none => rw [hx] at h3; injection h3 with _ h3; exact h3.symm
     | some y =>
      rw [hx] at h3
      simp only at h3
      split at h3
      ·cases h3
      ·injection h3 with _ h3; exact h3.symm
    subst hr
    subst e2
    exact ⟨rfl,h0,h2,e1.symm⟩
  ·cases h
theorem conv_all {W : World} {g off cap : Nat} (h : ∀ k x,L[k]? = some x → W.cell? ⟨g,off + k,none⟩ = some (.int .u8 (x.toNat : Int))) :
  (convert 38 9 (.slice (some ⟨g,off,none⟩) L.length cap)).run Tryz.prog W = .ok (.string ⟨L.toArray⟩) W:=by
 have h1:=conv_cut (cap:=cap) (p:=0) (q:=L.length) h (Nat.zero_le _) (Nat.le_refl _)
 rw [Nat.add_zero,Nat.sub_zero] at h1
 rw [h1]
 have : cutB L 0 L.length = L:=by unfold cutB; simp
 rw [this]
set_option maxRecDepth 4000000 in
set_option maxHeartbeats 4000000 in
theorem rnum7_c {w : World} {p q : Nat} {a : VT} (E : REnv B L A c rb w p) (h : rNumber L p = .ok a q) (hpl : p < L.length) :
  Calls Tryz.prog 83 #[.pointer (some ⟨rb,0,none⟩)] w (RvP B L A c rb q a w):=by
 obtain ⟨hn,hfe,hap,ha⟩:=rNumber_ok h
 have hq : p ≤ q ∧ q ≤ L.length:=⟨Nat.le_of_lt (up_numeral (Nat.le_of_lt hpl) hn).1,(up_numeral (Nat.le_of_lt hpl) hn).2⟩
 have hat:=numeral_at (Nat.le_of_lt hpl) hn
 obtain ⟨S,hS⟩ : ∃ S : ByteArray,(⟨L.toArray⟩ : ByteArray) = S:=⟨_,rfl⟩
 have hSo : octs S = octN L:=by rw [← hS]; unfold octs octN; rfl
 have hSs : S.size = L.length:=by rw [← hS]; show L.toArray.size = _; simp
 have hfit:=E.fits
 have hen:=fun W => endsAt_c S p W (by omega) (by omega)
 rw [hSo,hat] at hen
 obtain ⟨T,hT⟩ : ∃ T : ByteArray,(⟨(cutB L p q).toArray⟩ : ByteArray) = T:=⟨_,rfl⟩
 have hTo : octs T = cutN L p q:=by rw [← hT]; exact cutB_octs _ _
 have hTs : T.size ≤ 65536:=by rw [← hT]; show (cutB L p q).toArray.size ≤ _; rw [List.size_toArray]; unfold cutB; rw [List.length_take,List.length_drop]; omega
 have hpa:=fun W => rDParse_c T W (by omega)
 have hok : okB (fN (octs T)) (fZ (octs T)) (fX (octs T)) = true:=f_may2 (by rw [hTo]; exact hfe)
 rw [hTo] at hpa hok
 rw [hfe] at hpa
 unfold dv at hpa
 obtain ⟨ng,hng⟩ : ∃ b,fN (cutN L p q) = b:=⟨_,rfl⟩
 obtain ⟨ex,hex⟩ : ∃ b,fX (cutN L p q) = b:=⟨_,rfl⟩
 obtain ⟨zs,hzs⟩ : ∃ b,fZ (cutN L p q) = b:=⟨_,rfl⟩
 have hav : a = .mk 3 ng zs ex ⟨#[]⟩ [] []:=by rw [ha]; unfold numV; rw [hng,hex,hzs]
 rw [hng,hex,hzs] at hpa hok
 clear hng hex hzs ha hTo hfe hSo hat hn h
 subst hav
 obtain ⟨x0,hx0⟩ : ∃ x,L[p]? = some x:=⟨_,List.getElem?_eq_getElem hpl⟩
 obtain ⟨g,off,rfl,hg,-⟩:=E.oct p x0 hx0
 have hoct : ∀ k x,L[k]? = some x → w.cell? ⟨g,off + k,none⟩ = some (.int .u8 (x.toNat : Int)):=fun k x hk => by
  obtain ⟨g',off',h1,-,h3⟩:=E.oct k x hk
  injection h1 with h1
  have e1 : g = g':=congrArg Addr.block h1
  have e2 : off = off':=congrArg Addr.off h1
  rw [e1,e2]; exact h3
 obtain ⟨rs,hrs⟩ : ∃ b,w.heap.size = b:=⟨_,rfl⟩
 have hrl:=E.lt
 have hb0 : But (fun k => k = rb) w (w.alloc (.cells #[.int .i64 0,.bool false,.slice none 0 0,.int .i64 0,.string ⟨#[]⟩,.slice none 0 0,.slice none 0 0] 28)):=(But.refl _ w).alloc _
 have hm:=World.alloc_heap_new w (.cells #[.int .i64 0,.bool false,.slice none 0 0,.int .i64 0,.string ⟨#[]⟩,.slice none 0 0,.slice none 0 0] 28)
 have hE0:=E.stay (C:=fun _ => False) ((But.refl _ w).alloc (.cells #[.int .i64 0,.bool false,.slice none 0 0,.int .i64 0,.string ⟨#[]⟩,.slice none 0 0,.slice none 0 0] 28)) (fun k h => h.elim)
 have ho0 : ∀ k x,L[k]? = some x → (w.alloc (.cells #[.int .i64 0,.bool false,.slice none 0 0,.int .i64 0,.string ⟨#[]⟩,.slice none 0 0,.slice none 0 0] 28)).cell? ⟨g,off + k,none⟩ = some (.int .u8 (x.toNat : Int)):=fun k x hk => hb0.cell_some (hoct k x hk) (by show ¬ g = rb; have:=E.base; omega)
 rw [hrs] at hm hrl
 have hcap:=E.cap
 have HM:=Lib.hid hm
 have HB0:=Lib.hid hb0
 have HE0:=Lib.hid hE0
 have HR:=Lib.hid hrs
 have HEN:=Lib.hid hen
 have HPA:=Lib.hid hpa
 have HOK:=Lib.hid hok
 have HAP:=Lib.hid hap
 clear hm hb0 hE0 E hoct hen hpa hok hap hx0
 go_enter Tryz.func83,Tryz.ntmps83
 go_upto_region 1 with fail
 have hc0:=conv_all (cap:=c) ho0
 have hc1:=conv_cut (cap:=c - p) ho0 hq.1 hq.2
 rw [hS] at hc0
 rw [hT] at hc1
 unfold RvP
 try rw [hrs]
 clear hrs ho0
 generalize (w.alloc (.cells #[.int .i64 0,.bool false,.slice none 0 0,.int .i64 0,.string ⟨#[]⟩,.slice none 0 0,.slice none 0 0] 28)) = w0 at *
 obtain ⟨c0,c1,c2⟩:=HE0.out.cells
 have fz:=HE0.out.frozen 1
 go_wp2_with fail
 refine (HEN.out w0).mono ?_
 rintro e9 w1 ⟨z,rfl,hz,rfl⟩
 have hz':=hz q rfl
 subst hz'
 clear hz
 have hpq : (p : Int) ≤ (q : Int):=by omega
 have hqc : (q : Int) ≤ (c : Int):=by omega
 have hqi : q ≤ c:=by omega
 have hlc : (L.length : Int) ≤ (c : Int):=by omega
 have hp0 : (0 : Int) ≤ (p : Int):=by omega
 have hpc : (p : Int) ≤ (c : Int):=by omega
 have hcp : ¬ c = p:=by omega
 go_upto_region 7 with fail
 go_wp2_with fail
 refine (HPA.out w0).mono ?_
 rintro e9 w3 ⟨AA,nn,cc,rfl,hres,hbl⟩
 obtain ⟨M,hM⟩ : ∃ b,w0.heap.size = b:=⟨_,rfl⟩
 have hMr : rs < M:=by rw [← hM]; exact (Array.getElem?_eq_some_iff.1 HM.out).1
 rw [hM] at hres hbl
 have hrd:=hres.rd
 have hlen : nn ≤ 256:=by have:=(okB_true hres.l32 HOK.out).2.1; have:=hres.len; omega
 obtain ⟨tb,htb⟩ : ∃ b,w3.heap.size = b:=⟨_,rfl⟩
 have hMt : M ≤ tb:=by rw [← htb]; have:=hbl.size; omega
 have hB3 : But (fun _ => False) w0 w3:=⟨hbl.os,hbl.tape,hbl.output,hbl.size,fun k hk _ => hbl.block k (by omega)⟩
 have hB4 : But (fun _ => False) w0 (w3.alloc (.cells #[.bool ng,.slice AA nn cc,.int .i64 ex] 24)):=hB3.alloc _
 have hE4:=HE0.out.stay (C:=fun _ => False) hB4 (fun k h => h.elim)
 have hm4:=(hB4.block rs (by omega) (fun h => h)).trans HM.out
 have hd4:=World.alloc_heap_new w3 (.cells #[.bool ng,.slice AA nn cc,.int .i64 ex] 24)
 rw [htb] at hrd hd4
 have hrd4:=hrd.keep (w':=w3.alloc (.cells #[.bool ng,.slice AA nn cc,.int .i64 ex] 24)) (fun p hp => ((Below.refl _ w3).alloc (Nat.le_refl _) (.cells #[.bool ng,.slice AA nn cc,.int .i64 ex] 24)).cell (p:=p) (by have:=hp.2; omega))
 have hs4 : (w3.alloc (.cells #[.bool ng,.slice AA nn cc,.int .i64 ex] 24)).heap.size = tb + 1:=by rw [World.size_alloc,htb]
 have HB4:=Lib.hid hB4
 have HE4:=Lib.hid hE4
 have HM4:=Lib.hid hm4
 have HD4:=Lib.hid hd4
 have HRD:=Lib.hid hrd4
 have HS4:=Lib.hid hs4
 have HMT:=Lib.hid hMt
 have HMR:=Lib.hid hMr
 clear hres hbl hrd hB3 hB4 hE4 hm4 hd4 hrd4 hs4 c0 c1 c2 hc0 hc1 HPA HEN hM hMt hMr fz
 go_upto_region 8 with fail
 try rw [htb]
 clear htb
 generalize (w3.alloc (.cells #[.bool ng,.slice AA nn cc,.int .i64 ex] 24)) = w4 at *
 obtain ⟨c0,c1,c2⟩:=HE4.out.cells
 have fz:=HE4.out.frozen 1
 have hE5:=HE4.out.to hq.2
 have hb5 : But (fun k => k = rb) w4 (w4.setCell ⟨rb,1,none⟩ (.int .i64 (q : Int))):=But.setCell (C:=fun k => k = rb) (p:=⟨rb,1,none⟩) (But.refl _ w4) (.inl rfl) _
 go_upto_region 12 with fail
 have hrt : rs < tb:=by have:=HMT.out; have:=HMR.out; omega
 have hm5:=(hb5.block rs (by rw [HS4.out]; omega) (by omega)).trans HM4.out
 have hd5:=(hb5.block tb (by rw [HS4.out]; omega) (by omega)).trans HD4.out
 have hrd5:=HRD.out.keep (w':=w4.setCell ⟨rb,1,none⟩ (.int .i64 (q : Int))) (fun p hp => hb5.cell (p:=p) (by rw [HS4.out]; have:=hp.2; omega) (by have:=hp.1; have:=HMR.out; omega))
 have hal:=ralone_c hE5 HAP.out
 have hB5:=HB0.out.trans ((HB4.out.mono fun _ _ h => h.elim).trans hb5)
 have hs5 : (w4.setCell ⟨rb,1,none⟩ (.int .i64 (q : Int))).heap.size = tb + 1:=by simp [World.setCell,HS4.out]
 have HAL:=Lib.hid hal
 have HE5:=Lib.hid hE5
 have HM5:=Lib.hid hm5
 have HD5:=Lib.hid hd5
 have HRD5:=Lib.hid hrd5
 have HB5:=Lib.hid hB5
 have HS5:=Lib.hid hs5
 clear hal hE5 hm5 hd5 hrd5 hB5 hs5 hb5 c0 c1 c2 fz HB4 HE4 HM4 HD4 HRD HS4
 generalize (w4.setCell ⟨rb,1,none⟩ (.int .i64 (q : Int))) = w5 at *
 go_wp2_with fail
 refine HAL.out.mono ?_
 rintro e9 w6 ⟨⟨v9,rfl⟩,hb6⟩
 have hm6:=(hb6.block rs (by rw [HS5.out]; omega) (fun h => h)).trans HM5.out
 have hd6:=(hb6.block tb (by rw [HS5.out]; omega) (fun h => h)).trans HD5.out
 have hrd6:=HRD5.out.keep (w':=w6) (fun p hp => hb6.cell (p:=p) (by rw [HS5.out]; have:=hp.2; omega) (fun h => h))
 have hE6:=HE5.out.stay (C:=fun _ => False) hb6 (fun k h => h.elim)
 have hB6:=HB5.out.trans (hb6.mono fun _ _ h => h.elim)
 have hs6 : tb + 1 ≤ w6.heap.size:=by have:=hb6.size; rw [HS5.out] at this; exact this
 obtain ⟨z0,z1,z2,z3,z4,z5,z6⟩:=box7_of hm6
 have fz : ∀ j,w6.frozen? ⟨rs,j,none⟩ = false:=fun j => frozen_of_row w6 _ j _ _ hm6
 have d0 : w6.cell? ⟨tb,0,none⟩ = some (.bool ng):=cell_at3 hd6 rfl
 have d1 : w6.cell? ⟨tb,1,none⟩ = some (.slice AA nn cc):=cell_at3 hd6 rfl
 have d2 : w6.cell? ⟨tb,2,none⟩ = some (.int .i64 ex):=cell_at3 hd6 rfl
 have HE6:=Lib.hid hE6
 have HB6:=Lib.hid hB6
 have HRD6:=Lib.hid hrd6
 clear hm6 hd6 hrd6 hE6 hB6 hb6
 go_wp2_with fail
 refine bodyPost_ret (v:=.agg #[.int .i64 3,.bool ng,.slice AA nn cc,.int .i64 ex,.string ⟨#[]⟩,.slice none 0 0,.slice none 0 0]) (by simp [results,Tryz.results83,go_sem,z0,z1,z2,z3,z4,z5,z6]) rfl ?_
 have hs1:=put7_but (But.refl (fun k => k = rs) w6) (b:=rs) (.inl rfl) (.int .i64 3) (.bool ng) (.slice AA nn cc) (.int .i64 ex) (.string ⟨#[]⟩) (.slice none 0 0) (.slice none 0 0)
 have hs2:=put7_but HB6.out (b:=rs) (.inr (Nat.le_of_eq HR.out)) (.int .i64 3) (.bool ng) (.slice AA nn cc) (.int .i64 ex) (.string ⟨#[]⟩) (.slice none 0 0) (.slice none 0 0)
 generalize (((((((w6.setCell ⟨rs,0,none⟩ (.int .i64 3)).setCell ⟨rs,1,none⟩ (.bool ng)).setCell ⟨rs,2,none⟩ (.slice AA nn cc)).setCell ⟨rs,3,none⟩ (.int .i64 ex)).setCell ⟨rs,4,none⟩ (.string ⟨#[]⟩)).setCell ⟨rs,5,none⟩ (.slice none 0 0)).setCell ⟨rs,6,none⟩ (.slice none 0 0)) = w7 at *
 have hbase:=HE6.out.base
 have hs7:=hs1.size
 have hmr:=HMR.out
 have hrs9:=HR.out
 refine ⟨_,rfl,?_,HE6.out.stay hs1 (fun k hk => by omega),hs2⟩
 refine .mk (cs:=fun _ => []) ((HRD6.out.keep (w':=w7) (fun p hp => hs1.cell (p:=p) (by have:=hp.2; omega) (by have:=hp.1; omega))).more (fun b hb => ⟨by have:=hb.1; omega,by have:=hb.2; omega⟩)) (by omega) (by show (0 : Nat) ≤ _; omega) ⟨rfl,fun h0 => absurd h0 (by omega)⟩ (by omega) rfl (by omega) (Nat.le_refl _) (fun h0 => absurd h0 (by omega)) (fun i x hi => by simp at hi)
end Go.Proofs.YtkigpbkkhgabeaaGreatDoor
namespace Go.Proofs.YtkigpbkkhgabeaaGreatDoor
open Go.RowKit Go.Lib
variable {L : List UInt8}
def wsN (L : List UInt8) (p : Nat) : Nat:=p + ((L.drop p).takeWhile isWs).length
theorem wsN_le {p : Nat} (h : p ≤ L.length) : wsN L p ≤ L.length:=by
 unfold wsN
 have:=(List.takeWhile_sublist (l:=L.drop p) isWs).length_le
 rw [List.length_drop] at this
 omega
theorem wsN_ge (p : Nat) : p ≤ wsN L p:=Nat.le_add_right _ _
def ItAt {α : Type} (end_ : UInt8) (item : Nat → Rd1 α) (L : List UInt8) (n nth p : Nat) (l : List α) (q : Nat) : Prop :=
 ∃ a l' p1,item nth L p = .ok a p1 ∧ rItemsF end_ item n (nth + 1) L (wsN L p1) = .ok l' q ∧ l = a :: l'
theorem rSkips_ok7 {f : UInt8 → Bool} {p q : Nat} {u : Unit} (h : rSkips f L p = .ok u q) : q = p + ((L.drop p).takeWhile f).length:=by
 unfold rSkips at h
 injection h with _ h
 exact h.symm
theorem items_first {α : Type} {end_ : UInt8} {item : Nat → Rd1 α} {n p q : Nat} {l : List α} (h : rItemsF end_ item n 1 L p = .ok l q) :
  ∃ x,L[p]? = some x ∧ ((x = end_ ∧ l = [] ∧ q = p + 1) ∨ (x ≠ end_ ∧ ∃ n',ItAt end_ item L n' 1 p l q)):=by
 cases n with
 | zero => cases h
 | succ n =>
  unfold rItemsF at h
  obtain ⟨x,p1,h1,h2⟩:=bind_ok h
  unfold rPeek at h1
  cases hx : L[p]? with
  | none => rw [hx] at h1; cases h1
  | some y =>
   rw [hx] at h1
   injection h1 with e1 e2
   subst e1 e2
   refine ⟨y,rfl,?_⟩
   by_cases hy : y = end_
   ·subst hy
    simp only [beq_self_eq_true,if_true] at h2
    injection h2 with e1 e2
    exact .inl ⟨rfl,e1.symm,e2.symm⟩
   ·have hb : (y == end_) = false:=by rw [beq_eq_false_iff_ne]; exact hy
    simp only [hb,Bool.false_eq_true,if_false] at h2
    obtain ⟨u,p2,h3,h4⟩:=bind_ok h2
    rw [if_neg (by omega)] at h3
    unfold rPure at h3
    injection h3 with _ h3
    subst h3
    obtain ⟨a,p3,h5,h6⟩:=bind_ok h4
    obtain ⟨u2,p4,h7,h8⟩:=bind_ok h6
    obtain ⟨l',p5,h9,h10⟩:=bind_ok h8
    have:=rSkips_ok7 h7
    subst this
    unfold rPure at h10
    injection h10 with e1 e2
    subst e2
    exact .inr ⟨hy,n,a,l',p3,h5,h9,e1.symm⟩
theorem items_next {α : Type} {end_ : UInt8} {item : Nat → Rd1 α} {n nth p q : Nat} {l : List α} (hn : 1 < nth) (h : rItemsF end_ item n nth L p = .ok l q) :
  (L[p]? = some end_ ∧ l = [] ∧ q = p + 1) ∨ (L[p]? = some 44 ∧ (44 : UInt8) ≠ end_ ∧ ∃ n',ItAt end_ item L n' nth (wsN L (p + 1)) l q):=by
 cases n with
 | zero => cases h
 | succ n =>
  unfold rItemsF at h
  obtain ⟨x,p1,h1,h2⟩:=bind_ok h
  unfold rPeek at h1
  cases hx : L[p]? with
  | none => rw [hx] at h1; cases h1
  | some y =>
   rw [hx] at h1
   injection h1 with e1 e2
   subst e1 e2
   by_cases hy : y = end_
   ·subst hy
    simp only [beq_self_eq_true,if_true] at h2
    injection h2 with e1 e2
    exact .inl ⟨rfl,e1.symm,e2.symm⟩
   ·have hb : (y == end_) = false:=by rw [beq_eq_false_iff_ne]; exact hy
    simp only [hb,Bool.false_eq_true,if_false] at h2
    obtain ⟨u,p2,h3,h4⟩:=bind_ok h2
    rw [if_pos hn] at h3
    obtain ⟨u3,p6,h11,h12⟩:=bind_ok h3
    unfold rNeed at h11
    rw [hx] at h11
    simp only at h11
    split at h11
    ·rename_i hc
     have hc':=eq_of_beq hc
     subst hc'
     injection h11 with _ h11
     subst h11
     have:=rSkips_ok7 h12
     subst this
     obtain ⟨a,p3,h5,h6⟩:=bind_ok h4
     obtain ⟨u2,p4,h7,h8⟩:=bind_ok h6
     obtain ⟨l',p5,h9,h10⟩:=bind_ok h8
     have:=rSkips_ok7 h7
     subst this
     unfold rPure at h10
     injection h10 with e1 e2
     subst e2
     exact .inr ⟨rfl,hy,n,a,l',p3,h5,h9,e1.symm⟩
    ·cases h11
theorem rItems_ok {α : Type} {end_ : UInt8} {item : Nat → Rd1 α} {p q : Nat} {l : List α} (h : rItems end_ item L p = .ok l q) : rItemsF end_ item fuelR 1 L (wsN L (p + 1)) = .ok l q:=by
 unfold rItems at h
 obtain ⟨u,p1,h1,h2⟩:=bind_ok h
 have:=rSkips_ok7 h1
 subst this
 exact h2
theorem rBegin_ok {k nth p q : Nat} {u : Unit} (h : rBegin k nth L p = .ok u q) : q = p ∧ nth ≤ 4096 ∧ ∃ x,L[p]? = some x ∧ ((x = 91 ∨ x = 123) → 0 < k) ∧ (x = 91 ∨ x = 123 ∨ isDg x = true ∨ x = 34 ∨ x = 45 ∨ x = 110 ∨ x = 102 ∨ x = 116):=by
 unfold rBegin at h
 obtain ⟨x,p1,h1,h2⟩:=bind_ok h
 unfold rPeek at h1
 cases hx : L[p]? with
 | none => rw [hx] at h1; cases h1
 | some y =>
  rw [hx] at h1
  injection h1 with e1 e2
  subst e1 e2
  split at h2
  ·cases h2
  ·rename_i g1
   split at h2
   ·cases h2
   ·rename_i g2
    split at h2
    ·cases h2
    ·rename_i g3
     unfold rPure at h2
     injection h2 with _ h2
     refine ⟨h2.symm,by omega,y,rfl,fun hy => ?_,?_⟩
     ·rcases Nat.eq_zero_or_pos k with hk | hk
      ·exfalso
       subst hk
       rcases hy with rfl | rfl <;> simp at g2
      ·exact hk
     ·simp only [Bool.and_eq_true,Bool.not_eq_true',Bool.or_eq_false_iff,beq_eq_false_iff_ne,ne_eq,not_and] at g1
      by_cases c1 : y = 91
      ·exact .inl c1
      ·by_cases c2 : y = 123
       ·exact .inr (.inl c2)
       ·cases c3 : isDg y with
        | true => exact .inr (.inr (.inl rfl))
        | false =>
         by_cases d1 : y = 34
         ·exact .inr (.inr (.inr (.inl d1)))
         ·by_cases d2 : y = 45
          ·exact .inr (.inr (.inr (.inr (.inl d2))))
          ·by_cases d3 : y = 110
           ·exact .inr (.inr (.inr (.inr (.inr (.inl d3)))))
           ·by_cases d4 : y = 102
            ·exact .inr (.inr (.inr (.inr (.inr (.inr (.inl d4))))))
            ·by_cases d5 : y = 116
             ·exact .inr (.inr (.inr (.inr (.inr (.inr (.inr d5))))))
             ·exact absurd d5 (by simp [c1,c2,c3,d1,d2,d3,d4] at g1; simp [g1])
theorem rValue_nth {mk : List (ByteArray × VT) → VT} {k nth p q : Nat} {a : VT} (h : rValue mk k nth L p = .ok a q) : nth ≤ 4096 ∧ p < L.length:=by
 have hb : ∃ u r,rBegin k nth L p = .ok u r:=by
  cases k with
  | zero => unfold rValue at h; obtain ⟨u,r,h1,-⟩:=bind_ok h; exact ⟨u,r,h1⟩
  | succ k => unfold rValue at h; obtain ⟨u,r,h1,-⟩:=bind_ok h; exact ⟨u,r,h1⟩
 obtain ⟨u,r,h1⟩:=hb
 obtain ⟨-,h2,x,hx,-⟩:=rBegin_ok h1
 exact ⟨h2,(List.getElem?_eq_some_iff.1 hx).1⟩
end Go.Proofs.YtkigpbkkhgabeaaGreatDoor
