import Derived.Test.YtcanfiaooabocaaGreatDoorPWrd
import Derived.Test.YtcanfiaooabocaaGreatDoorPLow
import Derived.Test.YtcanfiaooabocaaGreatDoorPWtwo
import Derived.Test.YtcanfiaooabocaaGreatDoorPWrs
import Derived.Test.YtcanfiaooabocaaGreatDoorPPr
set_option linter.unusedVariables false
set_option linter.unusedSimpArgs false
namespace Go.Proofs.YtcanfiaooabocaaGreatDoor
open Go.RowKit Go.Lib
def Rds (L : List UInt8) (x : VT) : Prop:=∃ P q,(L.takeWhile isWs).length = P ∧ P < L.length ∧ rValue mkObj 64 1 L P = .ok x q ∧ q ≤ L.length ∧ q + ((L.drop q).takeWhile isWs).length = L.length
theorem rds_printed {qc : Int → List UInt8} {nt : Bool → List Nat → Int → List UInt8} (H : QcOk qc) (hnt : NtOk nt) (st : Nat) {x : VT} (hx : okV x) (hl : ∀ y ∈ partsV x,L32 y.num) : Rds (prV qc nt st 0 x) x:=by
 have h:=rNext_printed H hnt st hx hl [] [] [] (by simp) (fun c hc => by simp at hc)
 simp only [List.nil_append,List.append_nil,List.length_nil,Nat.zero_add] at h
 unfold rNext at h
 rw [List.drop_zero,Nat.zero_add] at h
 split at h
 ·cases h
 ·rename_i hne
  cases hv : rValue mkObj 64 1 (prV qc nt st 0 x) ((prV qc nt st 0 x).takeWhile isWs).length with
  | bad a b => rw [hv] at h; cases h
  | ok v q =>
   rw [hv] at h
   simp only [RR.bind] at h
   injection h with h1 h2
   injection h1 with h1
   subst h1 h2
   have hle:=(List.takeWhile_sublist (l:=prV qc nt st 0 v) isWs).length_le
   exact ⟨_,_,rfl,by omega,hv,Nat.le_refl _,by rw [List.drop_length]; rfl⟩
def BackE (x : VT) (e : Ending) : Prop:=(errV x ≠ 0 ∧ e = .returned (.tuple #[.string ⟨#[]⟩,.int .i64 ((errV x : Nat) : Int)])) ∨ (errV x = 0 ∧ e = .returned (.tuple #[.string ⟨#[]⟩,.int .i64 5])) ∨ (errV x = 0 ∧ ∃ L,Rds L x ∧ e = .returned (.tuple #[.string ⟨L.toArray⟩,.int .i64 0]))
theorem back_wr {x : VT} {qc : Int → List UInt8} (H : QcOk qc) {st : Nat} {e : Ending} (hl : ∀ y ∈ partsV x,L32 y.num) (h0 : errV x = 0) (h : WrE (prV qc numP st 0 x) 1048576 e) : BackE x e:=by
 rcases h with ⟨-,rfl⟩ | ⟨-,rfl⟩
 ·exact .inr (.inr ⟨h0,_,rds_printed H (numP_ok fun h1 h2 => Nat.le_trans (prt_len h1 h2) (by omega)) st h0 hl,rfl⟩)
 ·exact .inr (.inl ⟨h0,rfl⟩)
theorem back_ind {x : VT} {n : Int} {e : Ending} (hl : ∀ y ∈ partsV x,L32 y.num) (hn : ¬ (n < 0 ∨ 8 < n)) (h : IndE x n e) : BackE x e:=by
 unfold IndE at h
 by_cases h0 : errV x ≠ 0
 ·rw [if_pos h0] at h; exact .inl ⟨h0,h⟩
 ·rw [if_neg h0,if_neg hn] at h
  exact back_wr Qc_plain hl (by omega) h
theorem back_asc {x : VT} {e : Ending} (hl : ∀ y ∈ partsV x,L32 y.num) (h : AscE x e) : BackE x e:=by
 unfold AscE at h
 split at h
 ·rename_i h0; exact .inl ⟨h0,h⟩
 ·rename_i h0
  exact back_wr Qc_ascii hl (by omega) h
theorem depth_in (n : Int) : ∃ m : Int,(Go.RowKit.wrap64 (n.tmod 9 + 9)).tmod 9 = m ∧ ¬ (m < 0 ∨ 8 < m):=by
 have h1:=Int.lt_tmod_of_pos n (show (0 : Int) < 9 by omega)
 have h2:=Int.tmod_lt_of_pos n (show (0 : Int) < 9 by omega)
 refine ⟨_,rfl,?_⟩
 have hw : Go.RowKit.wrap64 (n.tmod 9 + 9) = n.tmod 9 + 9:=by unfold Go.RowKit.wrap64; omega
 rw [hw]
 have h3:=Int.tmod_nonneg (9 : Int) (show 0 ≤ n.tmod 9 + 9 by omega)
 have h4:=Int.tmod_lt_of_pos (n.tmod 9 + 9) (show (0 : Int) < 9 by omega)
 omega
set_option maxRecDepth 4000000 in
set_option maxHeartbeats 8000000 in
theorem printerBack_c {S : Nat → Prop} {x : VT} {cs : List Value} (n : Int) (w : World) (hG : Gl w.heap.size w) (hx : VIn w S x cs) (hS : ∀ b,S b → b < w.heap.size) (hn : -9223372036854775808 ≤ n ∧ n ≤ 9223372036854775807) :
  Calls Tryz.prog 3 #[.agg cs.toArray,.int .i64 n] w fun e w' => e = .returned (.bool true) ∧ Below w.heap.size w w':=by
 have hl:=hx.l32
 obtain ⟨k,neg,A,nn,c,e,t,LA,ln,lc,KA,kn,kc,rfl,-,-⟩:=hx.seven
 obtain ⟨bp,hbp⟩ : ∃ b,w.heap.size = b:=⟨_,rfl⟩
 have hb : Below w.heap.size w (w.alloc (.cells #[.int .i64 k,.bool neg,.slice A nn c,.int .i64 e,.string t,.slice LA ln lc,.slice KA kn kc] 28)):=(Below.refl _ w).alloc (Nat.le_refl _) _
 have hm:=World.alloc_heap_new w (.cells #[.int .i64 k,.bool neg,.slice A nn c,.int .i64 e,.string t,.slice LA ln lc,.slice KA kn kc] 28)
 have hsz : (w.alloc (.cells #[.int .i64 k,.bool neg,.slice A nn c,.int .i64 e,.string t,.slice LA ln lc,.slice KA kn kc] 28)).heap.size = bp + 1:=by rw [World.size_alloc,hbp]
 have hx1:=hx.keep (w':=w.alloc (.cells #[.int .i64 k,.bool neg,.slice A nn c,.int .i64 e,.string t,.slice LA ln lc,.slice KA kn kc] 28)) fun p hp => hb.cell (p:=p) (hS _ hp)
 have hG1:=hG.low hb
 rw [hbp] at hb hG1 hm hS ⊢
 have HL:=Lib.hid hl
 have HX:=Lib.hid hx1
 have HG:=Lib.hid hG1
 have HB:=Lib.hid hb
 have HM:=Lib.hid hm
 have HS:=Lib.hid hS
 clear hl hx hx1 hG hG1 hb hm hS
 go_enter Tryz.func3,Tryz.ntmps3
 go_wp2_with fail
 try rw [hbp]
 clear hbp
 generalize (w.alloc (.cells #[.int .i64 k,.bool neg,.slice A nn c,.int .i64 e,.string t,.slice LA ln lc,.slice KA kn kc] 28)) = w1 at *
 refine (alive9_c w1 (HG.out.up (by omega))).mono ?_
 rintro e9 w2 ⟨rfl,hb2⟩
 rw [hsz] at hb2
 have hm2:=(hb2.block bp (by omega)).trans HM.out
 obtain ⟨y0,y1,y2,y3,y4,y5,y6⟩:=box7_of hm2
 have hsz2 : bp + 1 ≤ w2.heap.size:=by have:=hb2.size; omega
 have hGx:=fun (W : World) (h : Below (bp + 1) w1 W) => (((HG.out.up (C:=bp + 1) (by omega)).low h).up (show bp + 1 ≤ W.heap.size by have:=h.size; omega))
 have hVx:=fun (W : World) (h : Below (bp + 1) w1 W) => HX.out.keep (w':=W) fun p hp => h.cell (p:=p) (by have:=HS.out _ hp; omega)
 have hSx:=fun (W : World) (h : Below (bp + 1) w1 W) (b : Nat) (hb : S b) => (show b < W.heap.size by have:=HS.out b hb; have:=h.size; omega)
 have HC:=Lib.hid (compact_c w2 (hGx w2 hb2) (hVx w2 hb2) (hSx w2 hb2))
 have HB2:=Lib.hid hb2
 have HGX:=Lib.hid hGx
 have HVX:=Lib.hid hVx
 have HSX:=Lib.hid hSx
 clear hb2 hm2 hGx hVx hSx
 go_wp2_with fail
 refine HC.out.mono ?_
 rintro e9 w3 ⟨he,hb3⟩
 have hbk:=back_ind HL.out (by omega) he
 have hb13:=HB2.out.trans (hb3.mono hsz2)
 have hm3:=(hb13.block bp (by omega)).trans HM.out
 have hsz3 : bp + 1 ≤ w3.heap.size:=by have:=hb13.size; omega
 have hBI:=fun z => indent_c z w3 (HGX.out w3 hb13) (HVX.out w3 hb13) (HSX.out w3 hb13)
 have HBI:=Lib.hid hBI
 have HB3:=Lib.hid hb13
 clear he hb13 hb3 hBI y0 y1 y2 y3 y4 y5 y6 HC
 obtain ⟨y0,y1,y2,y3,y4,y5,y6⟩:=box7_of hm3
 clear hm3
 have hret : ∃ a r,e9 = .returned (.tuple #[.string a,.int .i64 r]):=by
  rcases hbk with ⟨_,rfl⟩ | ⟨_,rfl⟩ | ⟨_,L,_,rfl⟩ <;> exact ⟨_,_,rfl⟩
 obtain ⟨sa,ra,rfl⟩:=hret
 have HKA:=Lib.hid hbk
 clear hbk
 go_wp2_with fail
 obtain ⟨m,hmw,hmm⟩:=depth_in n
 rw [show (wrap64 (n.tmod 9 + 9)).tmod 9 = m from hmw]
 refine (HBI.out m).mono ?_
 rintro e9 w4 ⟨he,hb4⟩
 have hbk:=back_ind HL.out hmm he
 have hb14:=HB3.out.trans (hb4.mono hsz3)
 have hm4:=(hb14.block bp (by omega)).trans HM.out
 have hsz4 : bp + 1 ≤ w4.heap.size:=by have:=hb14.size; omega
 have HAS:=Lib.hid (asciiV_c w4 (HGX.out w4 hb14) (HVX.out w4 hb14) (HSX.out w4 hb14))
 have HB4:=Lib.hid hb14
 clear he hb14 hb4 y0 y1 y2 y3 y4 y5 y6 HBI
 obtain ⟨y0,y1,y2,y3,y4,y5,y6⟩:=box7_of hm4
 clear hm4
 have hret : ∃ a r,e9 = .returned (.tuple #[.string a,.int .i64 r]):=by
  rcases hbk with ⟨_,rfl⟩ | ⟨_,rfl⟩ | ⟨_,L,_,rfl⟩ <;> exact ⟨_,_,rfl⟩
 obtain ⟨sb,rb,rfl⟩:=hret
 have HKB:=Lib.hid hbk
 clear hbk
 go_wp2_with fail
 refine HAS.out.mono ?_
 rintro e9 w5 ⟨he,hb5⟩
 have hbk:=back_asc HL.out he
 have hb15:=HB4.out.trans (hb5.mono hsz4)
 have hm5:=(hb15.block bp (by omega)).trans HM.out
 have hsz5 : bp + 1 ≤ w5.heap.size:=by have:=hb15.size; omega
 have HB5:=Lib.hid hb15
 clear he hb15 hb5 y0 y1 y2 y3 y4 y5 y6 HAS
 obtain ⟨y0,y1,y2,y3,y4,y5,y6⟩:=box7_of hm5
 clear hm5
 have hret : ∃ a r,e9 = .returned (.tuple #[.string a,.int .i64 r]):=by
  rcases hbk with ⟨_,rfl⟩ | ⟨_,rfl⟩ | ⟨_,L,_,rfl⟩ <;> exact ⟨_,_,rfl⟩
 obtain ⟨sc,rc,rfl⟩:=hret
 have HKC:=Lib.hid hbk
 clear hbk
 have inj : ∀ {s s' : ByteArray} {r r' : Int},Ending.returned (.tuple #[.string s,.int .i64 r]) = .returned (.tuple #[.string s',.int .i64 r']) → s = s' ∧ r = r':=fun h => by
  injection h with h
  injection h with h
  simpa using h
 have ka : (errV x ≠ 0 ∧ sa = ⟨#[]⟩ ∧ ra = (errV x : Int)) ∨ (errV x = 0 ∧ sa = ⟨#[]⟩ ∧ ra = 5) ∨ (errV x = 0 ∧ ∃ L,Rds L x ∧ sa = ⟨L.toArray⟩ ∧ ra = 0):=by
  rcases HKA.out with ⟨h,g⟩ | ⟨h,g⟩ | ⟨h,L,hL,g⟩
  ·exact .inl ⟨h,inj g⟩
  ·exact .inr (.inl ⟨h,inj g⟩)
  ·exact .inr (.inr ⟨h,L,hL,inj g⟩)
 have kb : (errV x ≠ 0 ∧ sb = ⟨#[]⟩ ∧ rb = (errV x : Int)) ∨ (errV x = 0 ∧ sb = ⟨#[]⟩ ∧ rb = 5) ∨ (errV x = 0 ∧ ∃ L,Rds L x ∧ sb = ⟨L.toArray⟩ ∧ rb = 0):=by
  rcases HKB.out with ⟨h,g⟩ | ⟨h,g⟩ | ⟨h,L,hL,g⟩
  ·exact .inl ⟨h,inj g⟩
  ·exact .inr (.inl ⟨h,inj g⟩)
  ·exact .inr (.inr ⟨h,L,hL,inj g⟩)
 have kc' : (errV x ≠ 0 ∧ sc = ⟨#[]⟩ ∧ rc = (errV x : Int)) ∨ (errV x = 0 ∧ sc = ⟨#[]⟩ ∧ rc = 5) ∨ (errV x = 0 ∧ ∃ L,Rds L x ∧ sc = ⟨L.toArray⟩ ∧ rc = 0):=by
  rcases HKC.out with ⟨h,g⟩ | ⟨h,g⟩ | ⟨h,L,hL,g⟩
  ·exact .inl ⟨h,inj g⟩
  ·exact .inr (.inl ⟨h,inj g⟩)
  ·exact .inr (.inr ⟨h,L,hL,inj g⟩)
 clear HKA HKB HKC inj
 by_cases h0 : errV x = 0
 ·rcases ka with ⟨h,-⟩ | ⟨-,rfl,rfl⟩ | ⟨-,La,hLa,rfl,rfl⟩
  ·exact absurd h0 h
  ·have HCK:=Lib.hid (rCheck5_c x S _ w5 h0 (HVX.out w5 HB5.out) (HSX.out w5 HB5.out))
   have hBX:=fun W (h : Below w5.heap.size w5 W) => HB.out.trans ((HB5.out.trans (h.mono hsz5)).mono (by omega))
   have HBX:=Lib.hid hBX
   clear hBX
   have rest : ∀ {s : ByteArray} {r : Int},((errV x ≠ 0 ∧ s = ⟨#[]⟩ ∧ r = (errV x : Int)) ∨ (errV x = 0 ∧ s = ⟨#[]⟩ ∧ r = 5) ∨ (errV x = 0 ∧ ∃ L,Rds L x ∧ s = ⟨L.toArray⟩ ∧ r = 0)) → (s = ⟨#[]⟩ ∧ r = 5) ∨ r = 0:=fun h => by
    rcases h with ⟨h,-⟩ | ⟨-,h⟩ | ⟨-,L,-,-,h⟩
    ·exact absurd h0 h
    ·exact .inl h
    ·exact .inr h
   rcases rest kb with ⟨rfl,rfl⟩ | rfl <;> rcases rest kc' with ⟨rfl,rfl⟩ | rfl
   all_goals clear kb kc' rest
   ·have hadd : ∀ W,(Op.stringOp .add ⟨#[]⟩ ⟨#[]⟩).run Tryz.prog W = .ok (.string ⟨#[]⟩) W:=fun W => by rw [run_string_add_sum W _ _ (by decide)]; rfl
    go_wp2_with (go_at_call 12; refine (lnum9_c _ _).mono ?_; rintro e w' ⟨rfl,rfl⟩)
    go_ret
    exact ⟨rfl,HBX.out _ (Below.refl _ _)⟩
   all_goals
    go_wp2_with (go_at_call 12; refine (lnum9_c _ _).mono ?_; rintro e w' ⟨rfl,rfl⟩)
    refine HCK.out.mono ?_
    rintro e9 w6 ⟨rfl,hb6⟩
    go_wp2_with fail
    go_ret
    exact ⟨rfl,HBX.out _ hb6⟩
  ·have hGd : Gd x:=(okV_parts h0).1
   have hpa:=(okV_parts h0).2.1
   have kb2 : (sb = ⟨#[]⟩ ∧ rb = 5) ∨ (∃ L,Rds L x ∧ sb = ⟨L.toArray⟩ ∧ rb = 0):=by
    rcases kb with ⟨h,-⟩ | ⟨-,h⟩ | ⟨-,h⟩
    ·exact absurd h0 h
    ·exact .inl h
    ·exact .inr h
   have kc2 : (sc = ⟨#[]⟩ ∧ rc = 5) ∨ (∃ L,Rds L x ∧ sc = ⟨L.toArray⟩ ∧ rc = 0):=by
    rcases kc' with ⟨h,-⟩ | ⟨-,h⟩ | ⟨-,h⟩
    ·exact absurd h0 h
    ·exact .inl h
    ·exact .inr h
   have KB:=Lib.hid kb2
   have KC:=Lib.hid kc2
   have HLA:=Lib.hid hLa
   obtain ⟨ab,hab⟩ : ∃ b,w5.heap.size = b:=⟨_,rfl⟩
   have hba : Below ab w5 (w5.alloc (.cells #[.string ⟨La.toArray⟩,.string sb,.string sc] 9)):=(Below.refl _ w5).alloc (by omega) _
   have hma:=World.alloc_heap_new w5 (.cells #[.string ⟨La.toArray⟩,.string sb,.string sc] 9)
   have hsa : (w5.alloc (.cells #[.string ⟨La.toArray⟩,.string sb,.string sc] 9)).heap.size = ab + 1:=by rw [World.size_alloc,hab]
   rw [hab] at hma
   have hB6:=HB5.out.trans (hba.mono (by omega))
   have HAB:=Lib.hid hma
   have HS6:=Lib.hid hsa
   have HB6:=Lib.hid hB6
   clear kb kc' kb2 kc2 hLa hba hma hsa hB6 y0 y1 y2 y3 y4 y5 y6
   go_wp2_with (go_at_call 12; refine (lnum9_c _ _).mono ?_; rintro e w' ⟨rfl,rfl⟩)
   try rw [hab]
   have hbpa : bp + 1 ≤ ab:=by omega
   clear hab
   generalize (w5.alloc (.cells #[.string ⟨La.toArray⟩,.string sb,.string sc] 9)) = w6 at *
   go_loopw [12] (fun iv wr => ∃ i : Nat,i ≤ 3 ∧ iv = .int .i64 (i : Int) ∧ Hid (Below (ab + 1) w6 wr)) (fun iv _ => 3 - (RowKit.intOf iv).toNat)
   case atStart => exact ⟨0,by omega,rfl,Below.refl _ _⟩
   case round =>
    obtain ⟨i,hi3,rfl,HBR⟩:=hrel
    have hbr : Below (bp + 1) w1 wr:=HB6.out.trans (HBR.out.mono (by omega))
    have hmr:=(hbr.block bp (by omega)).trans HM.out
    have har:=(HBR.out.block ab (by omega)).trans HAB.out
    obtain ⟨y0,y1,y2,y3,y4,y5,y6⟩:=box7_of hmr
    have a0 : wr.cell? ⟨ab,0,none⟩ = some (.string ⟨La.toArray⟩):=cell_at3 har rfl
    have a1 : wr.cell? ⟨ab,1,none⟩ = some (.string sb):=cell_at3 har rfl
    have a2 : wr.cell? ⟨ab,2,none⟩ = some (.string sc):=cell_at3 har rfl
    have hsw : ab + 1 ≤ wr.heap.size:=by have:=HBR.out.size; rw [HS6.out] at this; exact this
    have hs6:=HS6.out
    clear hmr har
    have hcase : i = 0 ∨ i = 1 ∨ i = 2 ∨ i = 3:=by omega
    rcases hcase with rfl | rfl | rfl | rfl
    ·have hLLa:=HLA.out
     obtain ⟨Q,hQ⟩ : ∃ Q : ByteArray,(⟨La.toArray⟩ : ByteArray) = Q:=⟨_,rfl⟩
     have hQs : Q.size = La.length:=by rw [← hQ]; show La.toArray.size = _; simp
     rw [hQ] at a0 HAB
     have HQ:=Lib.hid hQ
     clear hQ
     by_cases hbig : 65536 < La.length
     ·go_wp2_with (go_at_call 12; refine (lnum9_c _ _).mono ?_; rintro e w' ⟨rfl,rfl⟩)
      exact ⟨⟨1,by omega,rfl,HBR⟩,by simp [RowKit.intOf]⟩
     ·skip
      have hfit : La.length ≤ 65536:=by omega
      have hcv : ∀ W : World,(convert 9 38 (.string Q)).run Tryz.prog W = .ok (.slice (some ⟨W.heap.size,0,none⟩) La.length (grownCap W La.length 0 5)) (Go.Lib.bytesWorld W 5 Q):=fun W => by
       rw [← HQ.out]; exact textConv W La
      obtain ⟨P,q,hP,hPl,hval,hqL,hend⟩:=hLLa
      have hrd:=fun W : World => rReadOk_c (A:=some ⟨W.heap.size,0,none⟩) (c:=grownCap W La.length 0 5) (P:=P) (q:=q) (Go.Lib.bytesWorld W 5 Q) (by rw [← HQ.out]; exact textOct W La) (by rw [Go.Lib.bytesWorld_size]; omega) hfit (grownCap_ge _ _ _ _) hP hPl (rvOk_of hval) hGd hpa hqL hend
      have HRD:=Lib.hid hrd
      clear hrd hP hPl hval hend
      go_wp2_with (go_at_call 12; refine (lnum9_c _ _).mono ?_; rintro e w' ⟨rfl,rfl⟩)
      refine (HRD.out wr).mono ?_
      rintro e9 w8 ⟨cs2,rfl,hx2,hb8⟩
      rw [Go.Lib.bytesWorld_size] at hb8 hx2
      obtain ⟨k2,neg2,A2,n2,c2,e2,t2,LA2,ln2,lc2,KA2,kn2,kc2,rfl,-,-⟩:=hx2.seven
      have hb18 : Below (bp + 1) w1 w8:=(hbr.trans ((textBelow wr Q).mono (by have:=hbr.size; omega))).trans (hb8.mono (by have:=hbr.size; omega))
      have hb68 : Below (ab + 1) w6 w8:=(HBR.out.trans ((textBelow wr Q).mono (by have:=HBR.out.size; omega))).trans (hb8.mono (by have:=HBR.out.size; omega))
      have hm8:=(hb18.block bp (by omega)).trans HM.out
      have ha8:=(hb68.block ab (by omega)).trans HAB.out
      have hs8 : ab + 1 ≤ w8.heap.size:=by have:=hb68.size; omega
      obtain ⟨tb,htb⟩ : ∃ b,w8.heap.size = b:=⟨_,rfl⟩
      have habt : ab + 1 ≤ tb:=by omega
      have hb9 : Below tb w8 (w8.alloc (.cells #[.int .i64 k2,.bool neg2,.slice A2 n2 c2,.int .i64 e2,.string t2,.slice LA2 ln2 lc2,.slice KA2 kn2 kc2] 28)):=(Below.refl _ w8).alloc (by omega) _
      have hm9:=World.alloc_heap_new w8 (.cells #[.int .i64 k2,.bool neg2,.slice A2 n2 c2,.int .i64 e2,.string t2,.slice LA2 ln2 lc2,.slice KA2 kn2 kc2] 28)
      rw [htb] at hm9
      have hB19:=hb18.trans (hb9.mono (by omega))
      have hB69:=hb68.trans (hb9.mono (by omega))
      have hmb:=(hb9.block bp (by omega)).trans hm8
      have hab9:=(hb9.block ab (by omega)).trans ha8
      have hx9:=hx2.keep (w':=w8.alloc (.cells #[.int .i64 k2,.bool neg2,.slice A2 n2 c2,.int .i64 e2,.string t2,.slice LA2 ln2 lc2,.slice KA2 kn2 kc2] 28)) fun p hp => hb9.cell (p:=p) (by have:=hp.2; omega)
      have hxv:=HVX.out _ hB19
      have hs9 : (w8.alloc (.cells #[.int .i64 k2,.bool neg2,.slice A2 n2 c2,.int .i64 e2,.string t2,.slice LA2 ln2 lc2,.slice KA2 kn2 kc2] 28)).heap.size = tb + 1:=by rw [World.size_alloc,htb]
      have HSM:=Lib.hid (same_c x x _ S _ _ _ hx9 hxv (fun b hb => by have:=hb.2; omega) (HSX.out _ hB19))
      have HM9:=Lib.hid hm9
      have HMB:=Lib.hid hmb
      have HA9:=Lib.hid hab9
      have HB69:=Lib.hid hB69
      have HS9:=Lib.hid hs9
      clear hx2 hb8 hb18 hb68 hm8 ha8 hb9 hm9 hB19 hB69 hmb hab9 hx9 hxv hs9 y0 y1 y2 y3 y4 y5 y6 a0 a1 a2
      obtain ⟨y0,y1,y2,y3,y4,y5,y6⟩:=box7_of HMB.out
      obtain ⟨x0,x1,x2,x3,x4,x5,x6⟩:=box7_of HM9.out
      have ai : (w8.alloc (.cells #[.int .i64 k2,.bool neg2,.slice A2 n2 c2,.int .i64 e2,.string t2,.slice LA2 ln2 lc2,.slice KA2 kn2 kc2] 28)).cell? ⟨ab,0,none⟩ = some (.string Q):=cell_at3 HA9.out rfl
      go_upto_region 15 with fail
      try rw [htb]
      clear htb
      generalize (w8.alloc (.cells #[.int .i64 k2,.bool neg2,.slice A2 n2 c2,.int .i64 e2,.string t2,.slice LA2 ln2 lc2,.slice KA2 kn2 kc2] 28)) = w9 at *
      go_wp2_with fail
      refine HSM.out.mono ?_
      rintro e9 w7 ⟨rfl,hb7⟩
      rw [show sameV x x = true from sameV_iff.2 rfl]
      rw [HS9.out] at hb7
      have hB67:=HB69.out.trans (hb7.mono (by omega))
      go_wp2_with fail
      exact ⟨⟨1,by omega,rfl,hB67⟩,by simp [RowKit.intOf]⟩
    ·rcases KB.out with ⟨rfl,rfl⟩ | ⟨Lb,hLLb,rfl,rfl⟩
     ·go_wp2_with (go_at_call 12; refine (lnum9_c _ _).mono ?_; rintro e w' ⟨rfl,rfl⟩)
      exact ⟨⟨2,by omega,rfl,HBR⟩,by simp [RowKit.intOf]⟩
     ·skip
      obtain ⟨Q,hQ⟩ : ∃ Q : ByteArray,(⟨Lb.toArray⟩ : ByteArray) = Q:=⟨_,rfl⟩
      have hQs : Q.size = Lb.length:=by rw [← hQ]; show Lb.toArray.size = _; simp
      rw [hQ] at a1 HAB
      have HQ:=Lib.hid hQ
      clear hQ
      by_cases hbig : 65536 < Lb.length
      ·go_wp2_with (go_at_call 12; refine (lnum9_c _ _).mono ?_; rintro e w' ⟨rfl,rfl⟩)
       exact ⟨⟨2,by omega,rfl,HBR⟩,by simp [RowKit.intOf]⟩
      ·skip
       have hfit : Lb.length ≤ 65536:=by omega
       have hcv : ∀ W : World,(convert 9 38 (.string Q)).run Tryz.prog W = .ok (.slice (some ⟨W.heap.size,0,none⟩) Lb.length (grownCap W Lb.length 0 5)) (Go.Lib.bytesWorld W 5 Q):=fun W => by
        rw [← HQ.out]; exact textConv W Lb
       obtain ⟨P,q,hP,hPl,hval,hqL,hend⟩:=hLLb
       have hrd:=fun W : World => rReadOk_c (A:=some ⟨W.heap.size,0,none⟩) (c:=grownCap W Lb.length 0 5) (P:=P) (q:=q) (Go.Lib.bytesWorld W 5 Q) (by rw [← HQ.out]; exact textOct W Lb) (by rw [Go.Lib.bytesWorld_size]; omega) hfit (grownCap_ge _ _ _ _) hP hPl (rvOk_of hval) hGd hpa hqL hend
       have HRD:=Lib.hid hrd
       clear hrd hP hPl hval hend
       go_wp2_with (go_at_call 12; refine (lnum9_c _ _).mono ?_; rintro e w' ⟨rfl,rfl⟩)
       refine (HRD.out wr).mono ?_
       rintro e9 w8 ⟨cs2,rfl,hx2,hb8⟩
       rw [Go.Lib.bytesWorld_size] at hb8 hx2
       obtain ⟨k2,neg2,A2,n2,c2,e2,t2,LA2,ln2,lc2,KA2,kn2,kc2,rfl,-,-⟩:=hx2.seven
       have hb18 : Below (bp + 1) w1 w8:=(hbr.trans ((textBelow wr Q).mono (by have:=hbr.size; omega))).trans (hb8.mono (by have:=hbr.size; omega))
       have hb68 : Below (ab + 1) w6 w8:=(HBR.out.trans ((textBelow wr Q).mono (by have:=HBR.out.size; omega))).trans (hb8.mono (by have:=HBR.out.size; omega))
       have hm8:=(hb18.block bp (by omega)).trans HM.out
       have ha8:=(hb68.block ab (by omega)).trans HAB.out
       have hs8 : ab + 1 ≤ w8.heap.size:=by have:=hb68.size; omega
       obtain ⟨tb,htb⟩ : ∃ b,w8.heap.size = b:=⟨_,rfl⟩
       have habt : ab + 1 ≤ tb:=by omega
       have hb9 : Below tb w8 (w8.alloc (.cells #[.int .i64 k2,.bool neg2,.slice A2 n2 c2,.int .i64 e2,.string t2,.slice LA2 ln2 lc2,.slice KA2 kn2 kc2] 28)):=(Below.refl _ w8).alloc (by omega) _
       have hm9:=World.alloc_heap_new w8 (.cells #[.int .i64 k2,.bool neg2,.slice A2 n2 c2,.int .i64 e2,.string t2,.slice LA2 ln2 lc2,.slice KA2 kn2 kc2] 28)
       rw [htb] at hm9
       have hB19:=hb18.trans (hb9.mono (by omega))
       have hB69:=hb68.trans (hb9.mono (by omega))
       have hmb:=(hb9.block bp (by omega)).trans hm8
       have hab9:=(hb9.block ab (by omega)).trans ha8
       have hx9:=hx2.keep (w':=w8.alloc (.cells #[.int .i64 k2,.bool neg2,.slice A2 n2 c2,.int .i64 e2,.string t2,.slice LA2 ln2 lc2,.slice KA2 kn2 kc2] 28)) fun p hp => hb9.cell (p:=p) (by have:=hp.2; omega)
       have hxv:=HVX.out _ hB19
       have hs9 : (w8.alloc (.cells #[.int .i64 k2,.bool neg2,.slice A2 n2 c2,.int .i64 e2,.string t2,.slice LA2 ln2 lc2,.slice KA2 kn2 kc2] 28)).heap.size = tb + 1:=by rw [World.size_alloc,htb]
       have HSM:=Lib.hid (same_c x x _ S _ _ _ hx9 hxv (fun b hb => by have:=hb.2; omega) (HSX.out _ hB19))
       have HM9:=Lib.hid hm9
       have HMB:=Lib.hid hmb
       have HA9:=Lib.hid hab9
       have HB69:=Lib.hid hB69
       have HS9:=Lib.hid hs9
       clear hx2 hb8 hb18 hb68 hm8 ha8 hb9 hm9 hB19 hB69 hmb hab9 hx9 hxv hs9 y0 y1 y2 y3 y4 y5 y6 a0 a1 a2
       obtain ⟨y0,y1,y2,y3,y4,y5,y6⟩:=box7_of HMB.out
       obtain ⟨x0,x1,x2,x3,x4,x5,x6⟩:=box7_of HM9.out
       have ai : (w8.alloc (.cells #[.int .i64 k2,.bool neg2,.slice A2 n2 c2,.int .i64 e2,.string t2,.slice LA2 ln2 lc2,.slice KA2 kn2 kc2] 28)).cell? ⟨ab,1,none⟩ = some (.string Q):=cell_at3 HA9.out rfl
       go_upto_region 15 with fail
       try rw [htb]
       clear htb
       generalize (w8.alloc (.cells #[.int .i64 k2,.bool neg2,.slice A2 n2 c2,.int .i64 e2,.string t2,.slice LA2 ln2 lc2,.slice KA2 kn2 kc2] 28)) = w9 at *
       go_wp2_with fail
       refine HSM.out.mono ?_
       rintro e9 w7 ⟨rfl,hb7⟩
       rw [show sameV x x = true from sameV_iff.2 rfl]
       rw [HS9.out] at hb7
       have hB67:=HB69.out.trans (hb7.mono (by omega))
       go_wp2_with fail
       exact ⟨⟨2,by omega,rfl,hB67⟩,by simp [RowKit.intOf]⟩
    ·rcases KC.out with ⟨rfl,rfl⟩ | ⟨Lc,hLLc,rfl,rfl⟩
     ·go_wp2_with (go_at_call 12; refine (lnum9_c _ _).mono ?_; rintro e w' ⟨rfl,rfl⟩)
      exact ⟨⟨3,by omega,rfl,HBR⟩,by simp [RowKit.intOf]⟩
     ·skip
      obtain ⟨Q,hQ⟩ : ∃ Q : ByteArray,(⟨Lc.toArray⟩ : ByteArray) = Q:=⟨_,rfl⟩
      have hQs : Q.size = Lc.length:=by rw [← hQ]; show Lc.toArray.size = _; simp
      rw [hQ] at a2 HAB
      have HQ:=Lib.hid hQ
      clear hQ
      by_cases hbig : 65536 < Lc.length
      ·go_wp2_with (go_at_call 12; refine (lnum9_c _ _).mono ?_; rintro e w' ⟨rfl,rfl⟩)
       exact ⟨⟨3,by omega,rfl,HBR⟩,by simp [RowKit.intOf]⟩
      ·skip
       have hfit : Lc.length ≤ 65536:=by omega
       have hcv : ∀ W : World,(convert 9 38 (.string Q)).run Tryz.prog W = .ok (.slice (some ⟨W.heap.size,0,none⟩) Lc.length (grownCap W Lc.length 0 5)) (Go.Lib.bytesWorld W 5 Q):=fun W => by
        rw [← HQ.out]; exact textConv W Lc
       obtain ⟨P,q,hP,hPl,hval,hqL,hend⟩:=hLLc
       have hrd:=fun W : World => rReadOk_c (A:=some ⟨W.heap.size,0,none⟩) (c:=grownCap W Lc.length 0 5) (P:=P) (q:=q) (Go.Lib.bytesWorld W 5 Q) (by rw [← HQ.out]; exact textOct W Lc) (by rw [Go.Lib.bytesWorld_size]; omega) hfit (grownCap_ge _ _ _ _) hP hPl (rvOk_of hval) hGd hpa hqL hend
       have HRD:=Lib.hid hrd
       clear hrd hP hPl hval hend
       go_wp2_with (go_at_call 12; refine (lnum9_c _ _).mono ?_; rintro e w' ⟨rfl,rfl⟩)
       refine (HRD.out wr).mono ?_
       rintro e9 w8 ⟨cs2,rfl,hx2,hb8⟩
       rw [Go.Lib.bytesWorld_size] at hb8 hx2
       obtain ⟨k2,neg2,A2,n2,c2,e2,t2,LA2,ln2,lc2,KA2,kn2,kc2,rfl,-,-⟩:=hx2.seven
       have hb18 : Below (bp + 1) w1 w8:=(hbr.trans ((textBelow wr Q).mono (by have:=hbr.size; omega))).trans (hb8.mono (by have:=hbr.size; omega))
       have hb68 : Below (ab + 1) w6 w8:=(HBR.out.trans ((textBelow wr Q).mono (by have:=HBR.out.size; omega))).trans (hb8.mono (by have:=HBR.out.size; omega))
       have hm8:=(hb18.block bp (by omega)).trans HM.out
       have ha8:=(hb68.block ab (by omega)).trans HAB.out
       have hs8 : ab + 1 ≤ w8.heap.size:=by have:=hb68.size; omega
       obtain ⟨tb,htb⟩ : ∃ b,w8.heap.size = b:=⟨_,rfl⟩
       have habt : ab + 1 ≤ tb:=by omega
       have hb9 : Below tb w8 (w8.alloc (.cells #[.int .i64 k2,.bool neg2,.slice A2 n2 c2,.int .i64 e2,.string t2,.slice LA2 ln2 lc2,.slice KA2 kn2 kc2] 28)):=(Below.refl _ w8).alloc (by omega) _
       have hm9:=World.alloc_heap_new w8 (.cells #[.int .i64 k2,.bool neg2,.slice A2 n2 c2,.int .i64 e2,.string t2,.slice LA2 ln2 lc2,.slice KA2 kn2 kc2] 28)
       rw [htb] at hm9
       have hB19:=hb18.trans (hb9.mono (by omega))
       have hB69:=hb68.trans (hb9.mono (by omega))
       have hmb:=(hb9.block bp (by omega)).trans hm8
       have hab9:=(hb9.block ab (by omega)).trans ha8
       have hx9:=hx2.keep (w':=w8.alloc (.cells #[.int .i64 k2,.bool neg2,.slice A2 n2 c2,.int .i64 e2,.string t2,.slice LA2 ln2 lc2,.slice KA2 kn2 kc2] 28)) fun p hp => hb9.cell (p:=p) (by have:=hp.2; omega)
       have hxv:=HVX.out _ hB19
       have hs9 : (w8.alloc (.cells #[.int .i64 k2,.bool neg2,.slice A2 n2 c2,.int .i64 e2,.string t2,.slice LA2 ln2 lc2,.slice KA2 kn2 kc2] 28)).heap.size = tb + 1:=by rw [World.size_alloc,htb]
       have HSM:=Lib.hid (same_c x x _ S _ _ _ hx9 hxv (fun b hb => by have:=hb.2; omega) (HSX.out _ hB19))
       have HM9:=Lib.hid hm9
       have HMB:=Lib.hid hmb
       have HA9:=Lib.hid hab9
       have HB69:=Lib.hid hB69
       have HS9:=Lib.hid hs9
       clear hx2 hb8 hb18 hb68 hm8 ha8 hb9 hm9 hB19 hB69 hmb hab9 hx9 hxv hs9 y0 y1 y2 y3 y4 y5 y6 a0 a1 a2
       obtain ⟨y0,y1,y2,y3,y4,y5,y6⟩:=box7_of HMB.out
       obtain ⟨x0,x1,x2,x3,x4,x5,x6⟩:=box7_of HM9.out
       have ai : (w8.alloc (.cells #[.int .i64 k2,.bool neg2,.slice A2 n2 c2,.int .i64 e2,.string t2,.slice LA2 ln2 lc2,.slice KA2 kn2 kc2] 28)).cell? ⟨ab,2,none⟩ = some (.string Q):=cell_at3 HA9.out rfl
       go_upto_region 15 with fail
       try rw [htb]
       clear htb
       generalize (w8.alloc (.cells #[.int .i64 k2,.bool neg2,.slice A2 n2 c2,.int .i64 e2,.string t2,.slice LA2 ln2 lc2,.slice KA2 kn2 kc2] 28)) = w9 at *
       go_wp2_with fail
       refine HSM.out.mono ?_
       rintro e9 w7 ⟨rfl,hb7⟩
       rw [show sameV x x = true from sameV_iff.2 rfl]
       rw [HS9.out] at hb7
       have hB67:=HB69.out.trans (hb7.mono (by omega))
       go_wp2_with fail
       exact ⟨⟨3,by omega,rfl,hB67⟩,by simp [RowKit.intOf]⟩
    ·go_wp2_with (go_at_call 12; refine (lnum9_c _ _).mono ?_; rintro e w' ⟨rfl,rfl⟩)
     go_ret
     exact ⟨rfl,HB.out.trans (hbr.mono (by omega))⟩
 ·have e5 : ∀ {s : ByteArray} {r : Int},((errV x ≠ 0 ∧ s = ⟨#[]⟩ ∧ r = (errV x : Int)) ∨ (errV x = 0 ∧ s = ⟨#[]⟩ ∧ r = 5) ∨ (errV x = 0 ∧ ∃ L,Rds L x ∧ s = ⟨L.toArray⟩ ∧ r = 0)) → s = ⟨#[]⟩ ∧ r = (errV x : Int):=fun h => by
   rcases h with ⟨-,h⟩ | ⟨h,-⟩ | ⟨h,-⟩
   ·exact h
   ·exact absurd h h0
   ·exact absurd h h0
  obtain ⟨rfl,rfl⟩:=e5 ka
  obtain ⟨rfl,rfl⟩:=e5 kb
  obtain ⟨rfl,rfl⟩:=e5 kc'
  have hz : ((errV x : Nat) : Int) ≠ 0:=by omega
  generalize ((errV x : Nat) : Int) = E at *
  clear ka kb kc' e5
  have hadd : ∀ W,(Op.stringOp .add ⟨#[]⟩ ⟨#[]⟩).run Tryz.prog W = .ok (.string ⟨#[]⟩) W:=fun W => by rw [run_string_add_sum W _ _ (by decide)]; rfl
  go_wp2_with (go_at_call 12; refine (lnum9_c _ _).mono ?_; rintro e w' ⟨rfl,rfl⟩)
  go_ret
  exact ⟨rfl,HB.out.trans (HB5.out.mono (by omega))⟩
end Go.Proofs.YtcanfiaooabocaaGreatDoor
