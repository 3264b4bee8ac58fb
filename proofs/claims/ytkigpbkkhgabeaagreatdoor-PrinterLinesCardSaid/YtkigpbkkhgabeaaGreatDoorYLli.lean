import Derived.Test.YtkigpbkkhgabeaaGreatDoorYLdp
import Derived.Test.YtkigpbkkhgabeaaGreatDoorYDbm
import Derived.PlainAid
import Derived.Test.YtkigpbkkhgabeaaGreatDoorYDa
import Derived.Test.YtkigpbkkhgabeaaGreatDoorYVcm
import Derived.Deep.RegionHeld3
import Derived.Deep.Cut
import Derived.Calls
import Derived.Test.YtkigpbkkhgabeaaGreatDoorYRloc
import Derived.Test.YtkigpbkkhgabeaaGreatDoorYVchk
import Derived.Laws.EntriesVeiled
import Derived.Test.YtkigpbkkhgabeaaGreatDoorYLsall
import Derived.Test.YtkigpbkkhgabeaaGreatDoorYNlimb
import Derived.WalkKit
import Derived.Deep.QuietTactic
import Derived.BigQuiet
import Derived.Test.YtkigpbkkhgabeaaGreatDoorShelf
import Derived.Shelf.Strings.BuilderRune
import Derived.Shelf.Spec.DecodeRune
import Derived.Test.YtkigpbkkhgabeaaGreatDoorYDref
import Derived.Test.YtkigpbkkhgabeaaGreatDoorYDpar
import Derived.Laws.Concat
import Derived.Test.YtkigpbkkhgabeaaGreatDoorYNrefb
import Derived.Deep.AppendLies
import Derived.Test.YtkigpbkkhgabeaaGreatDoorYUtextb
import Derived.Deep.CutRange
import Derived.Test.YtkigpbkkhgabeaaGreatDoorYArgs
import Derived.Laws.BytesArg
set_option linter.unusedVariables false
set_option linter.unusedSimpArgs false
namespace Go.Proofs.YtkigpbkkhgabeaaGreatDoor
open Go.RowKit Go.Lib
set_option maxRecDepth 100000 in
set_option maxHeartbeats 4000000 in
theorem rsize_c : ∀ (N : Nat) (x : VT) (S : Nat → Prop) (cs : List Value) (w : World),(partsV x).length ≤ N → Gd x → (partsV x).length ≤ 16384 → VIn w S x cs → (∀ b,S b → b < w.heap.size) →
  Calls Tryz.prog 30 #[.agg cs.toArray] w fun e w' => e = .returned (.int .i64 ((partsV x).length : Int)) ∧ Below w.heap.size w w':=by
 intro N
 induction N with
 | zero =>
  intro x S cs w hN
  rw [parts_eq] at hN
  exact absurd hN (by simp)
 | succ N ih =>
  intro x S cs w hN hG hP hx hS
  obtain ⟨k,neg,A,n,c,e,t,LA,ln,lc,KA,kn,kc,rfl,hk,hl⟩:=hx.seven
  have hbx:=World.alloc_heap_new w (.cells #[.int .i64 k,.bool neg,.slice A n c,.int .i64 e,.string t,.slice LA ln lc,.slice KA kn kc] 28)
  have hb:=(Below.refl w.heap.size w).alloc (Nat.le_refl _) (.cells #[.int .i64 k,.bool neg,.slice A n c,.int .i64 e,.string t,.slice LA ln lc,.slice KA kn kc] 28)
  have hsz : (w.alloc (.cells #[.int .i64 k,.bool neg,.slice A n c,.int .i64 e,.string t,.slice LA ln lc,.slice KA kn kc] 28)).heap.size = w.heap.size + 1:=by simp
  have hin:=(alone_fields hG.own).1
  have hpl : (partsV x).length = 1 + szL x.list ln:=by
   rw [parts_eq,← hin,← hl.1,szL_all,List.length_cons]; omega
  have hsub : ∀ (i : Nat) (z : VT),x.list[i]? = some z → Gd z ∧ szL x.list i + (partsV z).length ≤ szL x.list ln:=fun i z hz => by
   refine ⟨hG.sub (by rw [← hin]; exact List.mem_of_getElem? hz),?_⟩
   have h1:=szL_succ hz
   have h2:=szL_le x.list (i + 1)
   rw [← szL_all,hl.1] at h2
   omega
  have hlb:=hl.2.1
  obtain ⟨RR,hRR⟩ : ∃ RR,(partsV x).length = RR:=⟨_,rfl⟩
  rw [hRR] at hpl hN hP ⊢
  have HPL:=Lib.hid hpl
  clear hRR hpl
  generalize x.list = l at *
  have HB:=Lib.hid hb
  have HL:=Lib.hid hl
  have HBX:=Lib.hid hbx
  have HSZ:=Lib.hid hsz
  have HSUB:=Lib.hid hsub
  have HVX:=Lib.hid hx
  have HGD:=Lib.hid hG
  obtain ⟨t0,t1,t2,t3,t4,t5,t6⟩:=box7_of hbx
  clear hb hl hbx hx hsz hsub hin hG
  go_enter Tryz.func30,Tryz.ntmps30
  go_wp2_with fail
  generalize (w.alloc (.cells #[.int .i64 k,.bool neg,.slice A n c,.int .i64 e,.string t,.slice LA ln lc,.slice KA kn kc] 28)) = W1 at *
  go_loopw [3,4] (fun nv iv wr => ∃ j D : Nat,j ≤ ln ∧ Hid (D = 1 + szL l j) ∧ nv = .int .i64 (D : Int) ∧ iv = .int .i64 (j : Int) ∧ Hid (Below W1.heap.size W1 wr)) (fun _ iv _ => ln - (RowKit.intOf iv).toNat)
  case atStart => exact ⟨0,1,Nat.zero_le _,by (show _ = _); rw [szL_zero],rfl,rfl,Below.refl _ _⟩
  case round =>
   obtain ⟨j,D,hj,hD,rfl,rfl,hbel⟩:=hrel
   have hbw : Below w.heap.size w wr:=HB.out.trans (hbel.out.mono (by have:=HSZ.out; omega))
   have hwr:=(hbel.out.block w.heap.size (by have:=HSZ.out; omega)).trans HBX.out
   obtain ⟨y0,y1,y2,y3,y4,y5,y6⟩:=box7_of hwr
   by_cases hjn : j < ln
   ·have hjlt : (j : Int) < (ln : Int):=by omega
    have hj0 : (0 : Int) ≤ (j : Int):=by omega
    have hjt : ((j : Int)).toNat = j:=by omega
    have hjw : IntKind.i64.wrap ((j : Int) + 1) = (j : Int) + 1:=IntWalk.i64_in _ (by omega)
    obtain ⟨b,off,x2,cs2,rfl,hSb,hx2,h7,hcells,hvx⟩:=HL.out.at_ hjn
    obtain ⟨k2,neg2,A2,n2,c2,e2,t2,LA2,ln2,lc2,KA2,kn2,kc2,rfl,-,-⟩:=hvx.seven
    have hcw : ∀ a,a < 7 → wr.cell? ⟨b,off + (j * 7 + a),none⟩ = _:=fun a ha => (hbw.cell (p:=⟨b,off + (j * 7 + a),none⟩) (hS b hSb)).trans (hcells a ha)
    have d0 : wr.cell? ⟨b,off + j * 7,none⟩ = some (.int .i64 k2):=hcw 0 (by omega)
    have d1 : wr.cell? ⟨b,off + j * 7 + 1,none⟩ = some (.bool neg2):=hcw 1 (by omega)
    have d2 : wr.cell? ⟨b,off + j * 7 + 2,none⟩ = some (.slice A2 n2 c2):=hcw 2 (by omega)
    have d3 : wr.cell? ⟨b,off + j * 7 + 3,none⟩ = some (.int .i64 e2):=hcw 3 (by omega)
    have d4 : wr.cell? ⟨b,off + j * 7 + 4,none⟩ = some (.string t2):=hcw 4 (by omega)
    have d5 : wr.cell? ⟨b,off + j * 7 + 5,none⟩ = some (.slice LA2 ln2 lc2):=hcw 5 (by omega)
    have d6 : wr.cell? ⟨b,off + j * 7 + 6,none⟩ = some (.slice KA2 kn2 kc2):=hcw 6 (by omega)
    obtain ⟨g1,g2⟩:=HSUB.out j x2 hx2
    have hst:=szL_succ hx2
    have HC:=ih x2 S _ wr (by have:=HPL.out; omega) g1 (by have:=HPL.out; omega) (hvx.stay hbw hS) (fun b hb => Nat.lt_of_lt_of_le (hS b hb) hbw.size)
    obtain ⟨E,hE⟩ : ∃ E,(partsV x2).length = E:=⟨_,rfl⟩
    rw [hE] at HC hst g2
    have hDb : D + E ≤ 16384:=by have:=HPL.out; have:=hD.out; omega
    obtain ⟨M,hM⟩ : ∃ M,D + E = M:=⟨_,rfl⟩
    have hMi : (D : Int) + (E : Int) = (M : Int):=by omega
    have hMw : IntKind.i64.wrap (M : Int) = (M : Int):=IntWalk.i64_in _ (by omega)
    have hDl : (D : Int) < 1048576:=by omega
    have HST:=Lib.hid (show M = 1 + szL l (j + 1) from by have:=hD.out; omega)
    have HBEL:=Lib.hid hbel.out
    have HCC:=Lib.hid HC
    clear hcw hcells hx2 h7 hvx hst hE hM hbel hwr HC hbw g1 g2 hD
    go_wp2_with fail
    refine HCC.out.mono ?_
    rintro e' w5 ⟨rfl,hb5⟩
    clear d0 d1 d2 d3 d4 d5 d6 y0 y1 y2 y3 y4 y5 y6
    go_wp2_with fail
    go_roundw
    case rel => first | exact ⟨j + 1,M,hjn,HST,rfl,by go_num,HBEL.out.trans (hb5.mono HBEL.out.size)⟩ | trace_state
    case measure => simp [RowKit.intOf]; omega
   ·have hjn2 : ¬ (j : Int) < (ln : Int):=by omega
    obtain rfl : j = ln:=by omega
    obtain rfl : D = RR:=by have:=HPL.out; have:=hD.out; omega
    have hmin : min (D : Int) 1048576 = (D : Int):=by omega
    have HBW:=Lib.hid hbw
    clear hbel hwr hbw hD
    go_wp2_with fail
    go_ret
    exact ⟨rfl,HBW.out⟩
end Go.Proofs.YtkigpbkkhgabeaaGreatDoor
namespace Go.Proofs.YtkigpbkkhgabeaaGreatDoor
open Go.RowKit
theorem stE_small {v : Nat} (h : v < 10 ^ 40) : stE v 0 = 0:=by
 by_cases h0 : v = 0
 ·rw [h0]; exact (st_zero false 0).1
 ·have hl : (dOf v).length ≤ 40:=by
   rcases Nat.lt_or_ge 40 (dOf v).length with h1 | h1
   ·exfalso
    have h2:=(dOf_can v).ge (dOf_ne (by omega))
    rw [dOf_val] at h2
    have h3 : 10 ^ 40 ≤ dp ((dOf v).length - 1):=Nat.pow_le_pow_right (by omega) (by omega)
    omega
   ·exact h1
  have h3:=lz_le (dOf v)
  unfold stE cf
  rw [if_neg h0,List.length_drop,if_neg (by omega),if_pos (by omega)]
theorem ten19 : (18446744073709551616 : Nat) < 10 ^ 40:=by decide
end Go.Proofs.YtkigpbkkhgabeaaGreatDoor
namespace Go.Proofs.YtkigpbkkhgabeaaGreatDoor
open Go.RowKit
set_option maxRecDepth 100000 in
theorem rnumber_c (x : Nat) (w : World) (hx : x < 18446744073709551616) :
  Calls Tryz.prog 60 #[.int .u64 x] w fun e w' => ∃ A n c ds,e = .returned (.slice A n c) ∧ ResI w' w.heap.size A n c ds ∧ DCan ds ∧ dval ds = x ∧ n ≤ 2731 ∧ Below w.heap.size w w':=by
 go_enter Tryz.func60,Tryz.ntmps60
 go_wp2_with fail
 refine (rFrom_c x w hx).mono ?_
 rintro e w1 ⟨A1,n1,c1,rfl,hr1,hn1,hb1⟩
 go_wp2_with fail
 refine (Digits_k (c:=c1) w1 hr1.rd (fun b h => h.2) (by omega)).mono ?_
 rintro e w2 ⟨A2,n2,c2,ds,rfl,hr2,hd2,hv2,hl2,hb2⟩
 rw [lim_val] at hv2
 have HV:=Lib.hid hv2
 clear hv2
 go_wp2
 go_ret
 exact ⟨A2,n2,c2,ds,rfl,hr2.more hb1.size,hd2,HV.out,hl2,hb1.trans (hb2.mono hb1.size)⟩
set_option maxRecDepth 100000 in
set_option maxHeartbeats 2000000 in
theorem RInt_c (z : Int) (w : World) (h1 : -9223372036854775808 ≤ z) (h2 : z ≤ 9223372036854775807) :
  Calls Tryz.prog 41 #[.int .i64 z] w fun e w' => ∃ A n c,e = .returned (dv (stN (decide (z < 0)) z.natAbs 0) A n c (stX z.natAbs 0)) ∧ Res w' w.heap.size A n c (stZ z.natAbs 0) ∧ Below w.heap.size w w':=by
 have hb0 : ∀ o,Below w.heap.size w (w.alloc o):=fun o => (Below.refl _ _).alloc (Nat.le_refl _) _
 have hW:=hb0 (.cells #[.bool false,.slice none 0 0,.int .i64 0] 24)
 have m0:=World.alloc_heap_new w (.cells #[.bool false,.slice none 0 0,.int .i64 0] 24)
 have hsz : (w.alloc (.cells #[.bool false,.slice none 0 0,.int .i64 0] 24)).heap.size = w.heap.size + 1:=by simp
 have HM0:=Lib.hid m0
 clear m0
 by_cases hz : z < 0
 ·rw [decide_eq_true hz]
  obtain ⟨u,hu⟩ : ∃ u : Nat,u = z.natAbs:=⟨_,rfl⟩
  obtain ⟨y,hy⟩ : ∃ y : Nat,(y : Int) = z + 18446744073709551616:=⟨(z + 18446744073709551616).toNat,by omega⟩
  obtain ⟨v,hv⟩ : ∃ v : Nat,v + 1 = u:=⟨u - 1,by omega⟩
  have hc1 : IntKind.u64.wrap z = (y : Int):=by rw [IntKind.wrap]; simp [IntKind.signed,IntKind.bits]; omega
  have hc2 : IntKind.u64.wrap (-(z + 1)) = (v : Int):=by rw [IntKind.wrap]; simp [IntKind.signed,IntKind.bits]; omega
  have hvz : -(z + 1) = (v : Int):=by omega
  rw [← hu]
  go_enter Tryz.func41,Tryz.ntmps41
  go_wp2_with fail
  have m0:=HM0.out
  clear HM0
  generalize (w.alloc (.cells #[.bool false,.slice none 0 0,.int .i64 0] 24)) = W at *
  have hnum:=fun V => rnumber_c y V (by omega)
  rw [hy] at hnum
  have HNUM:=Lib.hid hnum
  clear hnum
  refine (HNUM.out W).mono ?_
  rintro e w1 ⟨A1,n1,c1,ds,rfl,hr1,hd1,hv1,hl1,hb1⟩
  have m1:=heldz hb1 m0
  have hw1:=hW.trans (hb1.mono hW.size)
  clear hr1 hd1 hv1
  have m2:=heldA (.cells #[.bool false,.slice A1 n1 c1,.int .i64 0] 105) m1
  have mB:=World.alloc_heap_new w1 (.cells #[.bool false,.slice A1 n1 c1,.int .i64 0] 105)
  have hw2:=hw1.alloc hw1.size (.cells #[.bool false,.slice A1 n1 c1,.int .i64 0] 105)
  have hsz2 : (w1.alloc (.cells #[.bool false,.slice A1 n1 c1,.int .i64 0] 105)).heap.size = w1.heap.size + 1:=by simp
  have hvz2 : -(z + 1) = (v : Int):=hvz
  have hlt : w.heap.size < w1.heap.size:=by have:=hb1.size; omega
  go_wp2_with fail
  generalize (w1.alloc (.cells #[.bool false,.slice A1 n1 c1,.int .i64 0] 105)) = W2 at *
  refine (rnumber_c v W2 (by omega)).mono ?_
  rintro e w3 ⟨A3,n3,c3,ds3,rfl,hr3,hd3,hv3,hl3,hb3⟩
  have m3:=heldz hb3 m2
  have mC:=heldz hb3 mB
  have hw3:=hw2.trans (hb3.mono hw2.size)
  clear m2 mB m0 m1
  have HD:=Lib.hid hd3
  have HV:=Lib.hid hv3
  clear hd3 hv3
  go_wp2_with fail
  have hltP : w1.heap.size < (w3.alloc (.cells #[.int .i64 1] 3)).heap.size:=by have:=hb3.size; simp; omega
  have hlit:=ResI.lit w3 [1] 1 rfl (LI.one (by omega)) (by omega)
  have hq1 : (i64s [1]).toArray = #[Value.int IntKind.i64 1]:=by simp [i64s]
  rw [hq1] at hlit
  have hd1 : Hid (DCan [1]):=⟨D10.cons.2 ⟨by omega,D10.nil⟩,.inr (by decide)⟩
  have m4:=heldA (.cells #[.int .i64 1] 3) m3
  have mD:=heldA (.cells #[.int .i64 1] 3) mC
  have hw4:=hw3.alloc hw3.size (.cells #[.int .i64 1] 3)
  have hr4:=hr3.below (B:=w3.heap.size) ((Below.refl _ w3).alloc (Nat.le_refl _) (.cells #[.int .i64 1] 3)) (Nat.le_refl _)
  refine (Plus_c _ hr4.rd hlit.rd (fun b h => h.2) (fun b h => h.2) HD.out.1 hd1.out.1 (by omega) (by omega)).mono ?_
  rintro e w5 ⟨A5,n5,c5,ds5,rfl,hr5,hd5,hv5,hb5⟩
  have HV5 : Hid (dval ds5 = u):=by
   show _ = _
   rw [hv5,HV.out,← hv]; simp [dval,dp]
  have HD5:=Lib.hid hd5
  have m5:=heldz hb5 m4
  have mE:=heldz hb5 mD
  have hw5:=hw4.trans (hb5.mono hw4.size)
  have hlt5 : w1.heap.size < w5.heap.size:=(Array.getElem?_eq_some_iff.1 mE).1
  clear hv5 hd5 m4 mD m3 mC hlit
  have y0 : w5.cell? ⟨w1.heap.size,0,none⟩ = some (.bool false):=cell_of mE rfl
  have y1 : w5.cell? ⟨w1.heap.size,1,none⟩ = some (.slice A1 n1 c1):=cell_of mE rfl
  have y2 : w5.cell? ⟨w1.heap.size,2,none⟩ = some (.int .i64 0):=cell_of mE rfl
  have f0:=frozen_of 0 mE
  have f1:=frozen_of 1 mE
  have f2:=frozen_of 2 mE
  go_wp2_with fail
  have hl5 : n5 ≤ 100000:=by
   have h:=HD5.out.len_le (m:=40) (by rw [HV5.out]; have:=ten19; omega)
   rw [hr5.len] at h; omega
  have hw6 : Below w.heap.size w (((w5.setCell ⟨w1.heap.size,0,none⟩ (.bool true)).setCell ⟨w1.heap.size,1,none⟩ (.slice A5 n5 c5)).setCell ⟨w1.heap.size,2,none⟩ (.int .i64 0)) :=
   ((hw5.setCell (p:=⟨w1.heap.size,0,none⟩) hw1.size _).setCell (p:=⟨w1.heap.size,1,none⟩) hw1.size _).setCell (p:=⟨w1.heap.size,2,none⟩) hw1.size _
  have hb6 : Below w1.heap.size w5 (((w5.setCell ⟨w1.heap.size,0,none⟩ (.bool true)).setCell ⟨w1.heap.size,1,none⟩ (.slice A5 n5 c5)).setCell ⟨w1.heap.size,2,none⟩ (.int .i64 0)) :=
   (((Below.refl _ w5).setCell (p:=⟨w1.heap.size,0,none⟩) (Nat.le_refl _) _).setCell (p:=⟨w1.heap.size,1,none⟩) (Nat.le_refl _) _).setCell (p:=⟨w1.heap.size,2,none⟩) (Nat.le_refl _) _
  have m6:=held hb6 hlt m5
  have hr6:=((hr5.setOther (p:=⟨w1.heap.size,0,none⟩) hltP (.bool true)).setOther (p:=⟨w1.heap.size,1,none⟩) hltP (.slice A5 n5 c5)).setOther (p:=⟨w1.heap.size,2,none⟩) hltP (.int .i64 0)
  have hncb:=hr5.n_le
  have hmx : maxLen ≤ 9223372036854775807:=by decide
  clear m5 mE y0 y1 y2 f0 f1 f2
  generalize (((w5.setCell ⟨w1.heap.size,0,none⟩ (.bool true)).setCell ⟨w1.heap.size,1,none⟩ (.slice A5 n5 c5)).setCell ⟨w1.heap.size,2,none⟩ (.int .i64 0)) = W6 at *
  have hM:=Made_c (c:=c5) true 0 W6 hr6.rd (fun b h => h.2) HD5.out.1 hl5 hncb.1 (by omega) (by omega)
  have hE0:=stE_small (v:=u) (by have:=ten19; omega)
  rw [HV5.out,hE0] at hM
  unfold nv dv at hM
  have HM:=Lib.hid hM
  clear hM
  refine HM.out.mono ?_
  rintro e w7 ⟨A7,n7,c7,rfl,hr7,hb7⟩
  have m7:=heldz hb7 m6
  have hw7:=hw6.trans (hb7.mono hw6.size)
  have m8:=heldA (.cells #[.bool (stN true u 0),.slice A7 n7 c7,.int .i64 (stX u 0)] 24) m7
  have hw8:=hw7.alloc hw7.size (.cells #[.bool (stN true u 0),.slice A7 n7 c7,.int .i64 (stX u 0)] 24)
  have hr8:=hr7.below (B:=w7.heap.size) ((Below.refl _ w7).alloc (Nat.le_refl _) (.cells #[.bool (stN true u 0),.slice A7 n7 c7,.int .i64 (stX u 0)] 24)) (Nat.le_refl _)
  obtain ⟨y0,y1,y2⟩:=box3_of m8
  have f0:=frozen_of 0 m8
  have f1:=frozen_of 1 m8
  have f2:=frozen_of 2 m8
  have hlt7 : w.heap.size < W6.heap.size:=(Array.getElem?_eq_some_iff.1 m6).1
  clear m6 m7 m8 hr5 hr6 hr7
  clear hu hv
  go_wp2
  refine bodyPost_ret (v:=.agg #[.bool (stN true u 0),.slice A7 n7 c7,.int .i64 (stX u 0)]) (by simp [results,Tryz.results41,go_sem,y0,y1,y2]) rfl ?_
  exact ⟨A7,n7,c7,rfl,(((hr8.setOther (p:=⟨w.heap.size,0,none⟩) hlt7 _).setOther (p:=⟨w.heap.size,1,none⟩) hlt7 _).setOther (p:=⟨w.heap.size,2,none⟩) hlt7 _).more hw6.size,
   ((hw8.setCell (p:=⟨w.heap.size,0,none⟩) (Nat.le_refl _) _).setCell (p:=⟨w.heap.size,1,none⟩) (Nat.le_refl _) _).setCell (p:=⟨w.heap.size,2,none⟩) (Nat.le_refl _) _⟩
 ·rw [decide_eq_false hz]
  obtain ⟨u,hu⟩ : ∃ u : Nat,z = (u : Int):=⟨z.toNat,by omega⟩
  subst hu
  have hc1 : IntKind.u64.wrap (u : Int) = (u : Int):=by rw [IntKind.wrap]; simp [IntKind.signed,IntKind.bits]; omega
  have hab : ((u : Int)).natAbs = u:=by omega
  rw [hab]
  go_enter Tryz.func41,Tryz.ntmps41
  go_wp2_with fail
  have m0:=HM0.out
  clear HM0
  generalize (w.alloc (.cells #[.bool false,.slice none 0 0,.int .i64 0] 24)) = W at *
  refine (rnumber_c u W (by omega)).mono ?_
  rintro e w1 ⟨A5,n5,c5,ds5,rfl,hr5,hd5,hv5,hl1,hb1⟩
  have m1:=heldz hb1 m0
  have hw1:=hW.trans (hb1.mono hW.size)
  have HV5:=Lib.hid hv5
  have HD5:=Lib.hid hd5
  clear hd5 hv5 m0
  have m2:=heldA (.cells #[.bool false,.slice A5 n5 c5,.int .i64 0] 105) m1
  have mB:=World.alloc_heap_new w1 (.cells #[.bool false,.slice A5 n5 c5,.int .i64 0] 105)
  have hw6:=hw1.alloc hw1.size (.cells #[.bool false,.slice A5 n5 c5,.int .i64 0] 105)
  have hr6:=hr5.below (B:=w1.heap.size) ((Below.refl _ w1).alloc (Nat.le_refl _) (.cells #[.bool false,.slice A5 n5 c5,.int .i64 0] 105)) (Nat.le_refl _)
  have m6:=m2
  have hncb:=hr5.n_le
  clear m2 m1
  go_wp2_with fail
  have hmx : maxLen ≤ 9223372036854775807:=by decide
  generalize (w1.alloc (.cells #[.bool false,.slice A5 n5 c5,.int .i64 0] 105)) = W6 at *
  have hM:=Made_c (c:=c5) false 0 W6 hr6.rd (fun b h => h.2) HD5.out.1 (by omega) hncb.1 (by omega) (by omega)
  have hE0:=stE_small (v:=u) (by have:=ten19; omega)
  rw [HV5.out,hE0] at hM
  unfold nv dv at hM
  have HM:=Lib.hid hM
  clear hM
  refine HM.out.mono ?_
  rintro e w7 ⟨A7,n7,c7,rfl,hr7,hb7⟩
  have m7:=heldz hb7 m6
  have hw7:=hw6.trans (hb7.mono hw6.size)
  have m8:=heldA (.cells #[.bool (stN false u 0),.slice A7 n7 c7,.int .i64 (stX u 0)] 24) m7
  have hw8:=hw7.alloc hw7.size (.cells #[.bool (stN false u 0),.slice A7 n7 c7,.int .i64 (stX u 0)] 24)
  have hr8:=hr7.below (B:=w7.heap.size) ((Below.refl _ w7).alloc (Nat.le_refl _) (.cells #[.bool (stN false u 0),.slice A7 n7 c7,.int .i64 (stX u 0)] 24)) (Nat.le_refl _)
  obtain ⟨y0,y1,y2⟩:=box3_of m8
  have f0:=frozen_of 0 m8
  have f1:=frozen_of 1 m8
  have f2:=frozen_of 2 m8
  have hlt7 : w.heap.size < W6.heap.size:=(Array.getElem?_eq_some_iff.1 m6).1
  clear m6 m7 m8 hr5 hr6 hr7
  go_wp2
  refine bodyPost_ret (v:=.agg #[.bool (stN false u 0),.slice A7 n7 c7,.int .i64 (stX u 0)]) (by simp [results,Tryz.results41,go_sem,y0,y1,y2]) rfl ?_
  exact ⟨A7,n7,c7,rfl,(((hr8.setOther (p:=⟨w.heap.size,0,none⟩) hlt7 _).setOther (p:=⟨w.heap.size,1,none⟩) hlt7 _).setOther (p:=⟨w.heap.size,2,none⟩) hlt7 _).more hw6.size,
   ((hw8.setCell (p:=⟨w.heap.size,0,none⟩) (Nat.le_refl _) _).setCell (p:=⟨w.heap.size,1,none⟩) (Nat.le_refl _) _).setCell (p:=⟨w.heap.size,2,none⟩) (Nat.le_refl _) _⟩
end Go.Proofs.YtkigpbkkhgabeaaGreatDoor
namespace Go.Proofs.YtkigpbkkhgabeaaGreatDoor
open Go.RowKit
set_option maxRecDepth 100000 in
set_option maxHeartbeats 4000000 in
theorem rnum_c (w : World) (z : Int) (h1 : -9223372036854775808 ≤ z) (h2 : z ≤ 9223372036854775807) (hl : (stZ z.natAbs 0).length ≤ 35184372088832) :
  Calls Tryz.prog 21 #[.int .i64 z] w fun e' w' => ∃ cs',e' = .returned (.agg cs'.toArray) ∧ VIn w' (Own' w.heap.size w') (.mk 3 (stN (decide (z < 0)) z.natAbs 0) (stZ z.natAbs 0) (stX z.natAbs 0) ⟨#[]⟩ [] []) cs' ∧ Below w.heap.size w w':=by
 have hW : Below w.heap.size w (w.alloc (.cells #[.int .i64 0,.bool false,.slice none 0 0,.int .i64 0,.string ⟨#[]⟩,.slice none 0 0,.slice none 0 0] 28)):=(Below.refl _ w).alloc (Nat.le_refl _) _
 have hm2:=World.alloc_heap_new w (.cells #[.int .i64 0,.bool false,.slice none 0 0,.int .i64 0,.string ⟨#[]⟩,.slice none 0 0,.slice none 0 0] 28)
 have hz : (w.alloc (.cells #[.int .i64 0,.bool false,.slice none 0 0,.int .i64 0,.string ⟨#[]⟩,.slice none 0 0,.slice none 0 0] 28)).heap.size = w.heap.size + 1:=by simp
 go_enter Tryz.func21,Tryz.ntmps21
 go_upto_region 1 with fail
 generalize (w.alloc (.cells #[.int .i64 0,.bool false,.slice none 0 0,.int .i64 0,.string ⟨#[]⟩,.slice none 0 0,.slice none 0 0] 28)) = W0 at *
 have HC:=RInt_c z W0 h1 h2
 have HM2:=Lib.hid hm2
 have HW:=Lib.hid hW
 clear hm2 hW
 unfold dv at HC
 go_wp2_with fail
 refine HC.mono ?_
 rintro e' w1 ⟨A,n,c,rfl,hres,hb1⟩
 clear HC
 have hv : VIn w1 (Own' W0.heap.size w1) (.mk 3 (stN (decide (z < 0)) z.natAbs 0) (stZ z.natAbs 0) (stX z.natAbs 0) ⟨#[]⟩ [] []) [.int .i64 3,.bool (stN (decide (z < 0)) z.natAbs 0),.slice A n c,.int .i64 (stX z.natAbs 0),.string ⟨#[]⟩,.slice none 0 0,.slice none 0 0] :=
  .mk (cs:=fun _ => []) hres.rd (by rw [← hres.len]; exact hl) (by decide) ⟨rfl,fun h0 => absurd h0 (by omega)⟩ (by omega) rfl (by omega) (Nat.le_refl _) (fun h0 => absurd h0 (by omega)) (fun i x hi => by simp at hi)
 have HRES:=Lib.hid hres
 clear hres
 have hmz:=(hb1.block _ (by omega)).trans HM2.out
 obtain ⟨z0,z1,z2,z3,z4,z5,z6⟩:=box7_of hmz
 have fz : ∀ j,w1.frozen? ⟨w.heap.size,j,none⟩ = false:=fun j => frozen_of_row w1 _ j _ _ hmz
 have HV:=Lib.hid hv
 clear hv hmz
 go_wp2_with fail
 refine bodyPost_ret (v:=.agg #[.int .i64 3,.bool (stN (decide (z < 0)) z.natAbs 0),.slice A n c,.int .i64 (stX z.natAbs 0),.string ⟨#[]⟩,.slice none 0 0,.slice none 0 0]) (by simp [results,Tryz.results21,go_sem,z0,z1,z2,z3,z4,z5,z6]) rfl ?_
 refine ⟨[.int .i64 3,.bool (stN (decide (z < 0)) z.natAbs 0),.slice A n c,.int .i64 (stX z.natAbs 0),.string ⟨#[]⟩,.slice none 0 0,.slice none 0 0],rfl,?_,below_seven (HW.out.trans (hb1.mono (by omega))) (by omega) _ _ _ _ _ _ _⟩
 refine (HV.out.keep fun p hp => ?_).more fun b hb => ⟨by have:=hb.1; omega,?_⟩
 ·have h1:=hp.1
  exact cell_seven (by omega) _ _ _ _ _ _ _
 ·have:=hb.2
  simpa [World.setCell] using this
def numT (z : Int) : VT:=.mk 3 (stN (decide (z < 0)) z.natAbs 0) (stZ z.natAbs 0) (stX z.natAbs 0) ⟨#[]⟩ [] []
end Go.Proofs.YtkigpbkkhgabeaaGreatDoor
namespace Go.Proofs.YtkigpbkkhgabeaaGreatDoor
open Go.RowKit
theorem numLen (z : Int) (h : z = 1 ∨ z = 2 ∨ z = 3) : (stZ z.natAbs 0).length ≤ 35184372088832:=by
 have h1 : (stZ (1 : Int).natAbs 0).length = 1:=by kernel_rfl
 have h2 : (stZ (2 : Int).natAbs 0).length = 1:=by kernel_rfl
 have h3 : (stZ (3 : Int).natAbs 0).length = 1:=by kernel_rfl
 rcases h with rfl | rfl | rfl <;> omega
theorem num_c (z : Int) (h : z = 1 ∨ z = 2 ∨ z = 3) (w : World) : Calls Tryz.prog 21 #[.int .i64 z] w fun e' w' => ∃ cs',e' = .returned (.agg cs'.toArray) ∧ VIn w' (Own' w.heap.size w') (numT z) cs' ∧ Below w.heap.size w w' :=
 rnum_c w z (by omega) (by omega) (numLen z h)
end Go.Proofs.YtkigpbkkhgabeaaGreatDoor
namespace Go.Proofs.YtkigpbkkhgabeaaGreatDoor
open Go.RowKit Go.Lib
structure But (C : Nat → Prop) (w w' : World) : Prop where
 os : w'.os = w.os
 tape : w'.tape = w.tape
 output : w'.output = w.output
 size : w.heap.size ≤ w'.heap.size
 block : ∀ k,k < w.heap.size → ¬ C k → w'.heap[k]? = w.heap[k]?
theorem But.refl (C : Nat → Prop) (w : World) : But C w w:=⟨rfl,rfl,rfl,Nat.le_refl _,fun _ _ _ => rfl⟩
theorem But.trans {C : Nat → Prop} {a b c : World} (h : But C a b) (k : But C b c) : But C a c :=
 ⟨k.os.trans h.os,k.tape.trans h.tape,k.output.trans h.output,Nat.le_trans h.size k.size,fun i hi hc => (k.block i (Nat.lt_of_lt_of_le hi h.size) hc).trans (h.block i hi hc)⟩
theorem But.mono {C D : Nat → Prop} {a b : World} (h : But C a b) (hD : ∀ k,k < a.heap.size → C k → D k) : But D a b :=
 ⟨h.os,h.tape,h.output,h.size,fun i hi hc => h.block i hi fun h2 => hc (hD i hi h2)⟩
theorem But.of {C : Nat → Prop} {w w' : World} (h : Below w.heap.size w w') : But C w w':=⟨h.os,h.tape,h.output,h.size,fun k hk _ => h.block k hk⟩
theorem But.setCell {C : Nat → Prop} {a w : World} (h : But C a w) {p : Addr} (hp : C p.block ∨ a.heap.size ≤ p.block) (u : Value) : But C a (w.setCell p u) :=
 ⟨h.os,h.tape,h.output,by simpa [World.setCell] using h.size,fun k hk hc => (Below.heap_setCell _ _ _ _ (by rintro rfl; rcases hp with hp | hp; exact hc hp; omega)).trans (h.block k hk hc)⟩
theorem But.drew {C : Nat → Prop} {a w : World} (h : But C a w) : But C a w.drew:=⟨h.os,h.tape,h.output,h.size,h.block⟩
theorem But.drewN {C : Nat → Prop} {a w : World} (h : But C a w) (k : Nat) : But C a (w.drewN k):=⟨h.os,h.tape,h.output,h.size,h.block⟩
theorem But.alloc {C : Nat → Prop} {a w : World} (h : But C a w) (o : Obj) : But C a (w.alloc o):=h.trans (But.of ((Below.refl _ _).alloc (Nat.le_refl _) o))
theorem But.below {C : Nat → Prop} {B : Nat} {w w' : World} (h : But C w w') (hB : B ≤ w.heap.size) (hC : ∀ k,k < B → ¬ C k) : Below B w w' :=
 ⟨h.os,h.tape,h.output,h.size,fun k hk => h.block k (Nat.lt_of_lt_of_le hk hB) (hC k hk)⟩
theorem But.cell {C : Nat → Prop} {w w' : World} (h : But C w w') {p : Addr} (hp : p.block < w.heap.size) (hc : ¬ C p.block) : w'.cell? p = w.cell? p:=World.cell?_of_block (h.block _ hp hc)
theorem But.cell_some {C : Nat → Prop} {w w' : World} (h : But C w w') {p : Addr} {v : Value} (hv : w.cell? p = some v) (hc : ¬ C p.block) : w'.cell? p = some v:=by
 obtain ⟨b,o,s⟩:=p
 exact (h.cell (World.block_lt_of_cell? w _ hv) hc).trans hv
theorem cell_at3 {w : World} {b i : Nat} {vs : Array Value} {v : Value} {t : TypeId} (h : w.heap[b]? = some (.cells vs t)) (hi : vs[i]? = some v) : w.cell? ⟨b,i,none⟩ = some v:=by
 simp [World.cell?,h,hi]
variable {B : Nat} {L : List UInt8} {A : Option Addr} {c sb : Nat}
end Go.Proofs.YtkigpbkkhgabeaaGreatDoor
namespace Go.Proofs.YtkigpbkkhgabeaaGreatDoor
open Go.RowKit Go.Lib
variable {B : Nat} {L : List UInt8} {A : Option Addr} {c sb : Nat}
def dgE (L : List UInt8) (p : Nat) : Nat:=p + ((L.drop p).takeWhile isDg).length
end Go.Proofs.YtkigpbkkhgabeaaGreatDoor
namespace Go.Proofs.YtkigpbkkhgabeaaGreatDoor
open Go.RowKit Go.Lib
variable {B : Nat} {L : List UInt8} {A : Option Addr} {c sb : Nat}
theorem But.no {C : Nat → Prop} {w w' : World} (h : But (fun _ => False) w w') : But C w w':=h.mono (fun _ _ h => h.elim)
end Go.Proofs.YtkigpbkkhgabeaaGreatDoor
namespace Go.Proofs.YtkigpbkkhgabeaaGreatDoor
open Go.RowKit Go.Lib
variable {B : Nat} {L : List UInt8} {A : Option Addr} {c sb : Nat}
def cutB (L : List UInt8) (p q : Nat) : List UInt8:=(L.drop p).take (q - p)
theorem cutB_octs (p q : Nat) : octs ⟨(cutB L p q).toArray⟩ = cutN L p q:=by
 unfold octs cutN cutB; rfl
theorem set_heap {w : World} {b i : Nat} {u : Value} {vs : Array Value} {t : TypeId} (h : w.heap[b]? = some (.cells vs t)) : (w.setCell ⟨b,i,none⟩ u).heap[b]? = some (.cells (vs.setIfInBounds i u) t):=by
 show (w.heap.modify b _)[b]? = _
 rw [Array.getElem?_modify,if_pos rfl,h]
 rfl
theorem str_cut (l : List UInt8) : strOfNums (l.map fun x => (x.toNat : Int)) = ⟨l.toArray⟩:=by
 unfold strOfNums
 rw [List.map_map,show (l.map ((fun n : Int => UInt8.ofNat n.toNat) ∘ fun x : UInt8 => (x.toNat : Int))) = l from by
  conv => rhs; rw [← List.map_id l]
  exact List.map_congr_left fun x _ => by simp]
theorem conv_cut {W : World} {g off p q cap : Nat} (h : ∀ k x,L[k]? = some x → W.cell? ⟨g,off + k,none⟩ = some (.int .u8 (x.toNat : Int))) (hp : p ≤ q) (hq : q ≤ L.length) :
  (convert 38 9 (.slice (some ⟨g,off + p,none⟩) (q - p) cap)).run Tryz.prog W = .ok (.string ⟨(cutB L p q).toArray⟩) W:=by
 have hl : (cutB L p q).length = q - p:=by unfold cutB; rw [List.length_take,List.length_drop]; omega
 have h1:=run_convert_bytes_arg (P:=Tryz.prog) (w:=W) 38 5 Tryz.underlying38 Tryz.underlying5 g (off + p) (q - p) cap ((cutB L p q).map fun x => (x.toNat : Int)) (by rw [List.length_map,hl]) (fun i hi => by
  have h2 : L[p + i]? = some (cutB L p q)[i]:=by
   rw [← List.getElem?_eq_getElem]
   unfold cutB
   rw [List.getElem?_take,if_pos (by omega),List.getElem?_drop]
  rw [show off + p + i = off + (p + i) by omega,h _ _ h2,List.getD_eq_getElem?_getD,List.getElem?_map,List.getElem?_eq_getElem (by omega)]
  rfl) 9 Tryz.underlying9
 rw [h1,str_cut]
end Go.Proofs.YtkigpbkkhgabeaaGreatDoor
namespace Go.Proofs.YtkigpbkkhgabeaaGreatDoor
open Go.RowKit Go.Lib
variable {B : Nat} {L : List UInt8} {A : Option Addr} {c sb : Nat}
def Grow (N : Nat) (v : Value) (l : List VT) (W : World) : Prop:=∃ cs : Nat → List Value,W.ownsRow N 28 7 v l.length (flatC cs id l.length) ∧ (∀ i,i < l.length → (cs i).length = 7) ∧
 (∀ i x,l[i]? = some x → VIn W (fun b => N ≤ b ∧ b < W.heap.size ∧ v.ownBlock ≠ some b) x (cs i))
theorem ownsRow_keepB {w w' : World} {base : Nat} {e : TypeId} {size : Nat} {v : Value} {n : Nat} {xs : List Value} {C : Nat → Prop} (h : w.ownsRow base e size v n xs) (hb : But C w w') (hC : ∀ k,v.ownBlock = some k → ¬ C k) : w'.ownsRow base e size v n xs:=by
 obtain ⟨h1,h2⟩:=h
 refine ⟨h1,?_⟩
 rcases h2 with h2 | ⟨g,cap,cur,e1,e2,e3,e4⟩
 ·exact .inl h2
 ·exact .inr ⟨g,cap,cur,e1,e2,(hb.block g (Array.getElem?_eq_some_iff.1 e3).1 (hC g (by rw [e1]; rfl))).trans e3,e4⟩
theorem ownsRow_lt {w : World} {base : Nat} {e : TypeId} {size : Nat} {v : Value} {n : Nat} {xs : List Value} (h : w.ownsRow base e size v n xs) {k : Nat} (hk : v.ownBlock = some k) : base ≤ k ∧ k < w.heap.size:=by
 rcases h.2 with ⟨h2,-⟩ | ⟨g,cap,cur,e1,e2,e3,e4⟩
 ·rw [h2] at hk; exact absurd hk (by simp [Value.ownBlock])
 ·rw [e1] at hk
  injection hk with hk
  have hk : g = k:=hk
  subst hk
  exact ⟨e2,(Array.getElem?_eq_some_iff.1 e3).1⟩
theorem Grow.keep {N : Nat} {v : Value} {l : List VT} {W W' : World} {C : Nat → Prop} (h : Grow N v l W) (hb : But C W W') (hC : ∀ k,C k → k < N) : Grow N v l W':=by
 obtain ⟨cs,h1,h2,h3⟩:=h
 refine ⟨cs,ownsRow_keepB h1 hb (fun k hk hc => by have:=(ownsRow_lt h1 hk).1; have:=hC k hc; omega),h2,fun i x hx => ?_⟩
 exact ((h3 i x hx).keep fun p hp => hb.cell hp.2.1 (fun hc => by have:=hC _ hc; have:=hp.1; omega)).more fun b hb' => ⟨hb'.1,Nat.lt_of_lt_of_le hb'.2.1 hb.size,hb'.2.2⟩
theorem ownsRow_cell {w : World} {base : Nat} {e : TypeId} {size n g cap : Nat} {xs : List Value} (h : w.ownsRow base e size (.slice (some ⟨g,0,none⟩) n cap) n xs) {j : Nat} {u : Value} (hj : xs[j]? = some u) : w.cell? ⟨g,j,none⟩ = some u ∧ w.frozen? ⟨g,j,none⟩ = false:=by
 rcases h.2 with ⟨h2,-⟩ | ⟨g',cap',cur,e1,e2,e3,e4,e5,e6,e7⟩
 ·exact absurd h2 (by simp)
 ·injection e1 with e1
  injection e1 with e1
  have e8 : g = g':=congrArg Addr.block e1
  subst e8
  have h3 : cur[j]? = some u:=by
   rw [← e7,List.getElem?_take] at hj
   by_cases hjn : j < n * size
   ·rw [if_pos hjn] at hj
    rw [← Array.getElem?_toList]; exact hj
   ·rw [if_neg hjn] at hj; exact absurd hj (by simp)
  exact ⟨by simp [World.cell?,e3,h3],by simp [World.frozen?,e3]⟩
theorem Grow.push {N ln M g' cap' ob : Nat} {v : Value} {acc : List VT} {a : VT} {w2 W1 w5 w6 : World} {fs : Nat → List Value} {csa : List Value} (hln : acc.length = ln)
  (hfl : ∀ i,i < ln → (fs i).length = 7) (hft : ∀ i x,acc[i]? = some x → VIn W1 (fun b => N ≤ b ∧ b < W1.heap.size ∧ v.ownBlock ≠ some b) x (fs i))
  (hvl : ∀ k,v.ownBlock = some k → k < M) (hNM : N ≤ M) (h21 : Below w2.heap.size w2 W1)
  (hva : VIn w2 (fun b => M ≤ b ∧ b < w2.heap.size) a csa) (hc7 : csa.length = 7)
  (hg : W1.grownBy w5 v.ownBlock) (hat : (Value.slice (some ⟨g',0,none⟩) (ln + 1) cap').ownBlock = v.ownBlock ∨ (Value.slice (some ⟨g',0,none⟩) (ln + 1) cap').ownBlock = some W1.heap.size)
  (hb6 : But (fun j => j = g' ∨ j = ob) w5 w6) (hobN : ob < N)
  (hown6 : w6.ownsRow N 28 7 (.slice (some ⟨g',0,none⟩) (ln + 1) cap') (ln + 1) (flatC fs id ln ++ csa)) : Grow N (.slice (some ⟨g',0,none⟩) (ln + 1) cap') (acc ++ [a]) w6:=by
 have hg1 : ∀ b,v.ownBlock ≠ some b → b < W1.heap.size → b ≠ g':=fun b h1 h2 h3 => by
  subst h3
  rcases hat with h | h
  ·exact h1 h.symm
  ·injection h with h
   have h : b = W1.heap.size:=h
   omega
 have hkeep : ∀ b,N ≤ b → b < W1.heap.size → v.ownBlock ≠ some b → w6.heap[b]? = W1.heap[b]?:=fun b h0 h1 h2 => by
  rw [hb6.block b (Nat.lt_of_lt_of_le h1 hg.size) (by have:=hg1 b h2 h1; omega)]
  exact hg.block b h1 (fun e => h2 e.symm)
 have hgo : ∀ b,v.ownBlock ≠ some b → b < W1.heap.size → (Value.slice (some ⟨g',0,none⟩) (ln + 1) cap').ownBlock ≠ some b:=fun b h1 h2 h3 => by
  injection h3 with h3
  exact hg1 b h1 h2 h3.symm
 have hsz : W1.heap.size ≤ w6.heap.size:=Nat.le_trans hg.size hb6.size
 refine ⟨fun i => if i < ln then fs i else csa,?_,fun i hi => ?_,fun i x hx => ?_⟩
 ·rw [List.length_append,hln]
  show w6.ownsRow N _ 7 _ (ln + 1) (flatC _ id (ln + 1))
  rw [flatC_succ]
  have h1 : flatC (fun i => if i < ln then fs i else csa) id ln = flatC fs id ln:=by
   unfold flatC
   congr 1
   refine List.map_congr_left fun q hq => ?_
   have:=List.mem_range.1 hq
   simp [this]
  rw [h1]
  simpa using hown6
 ·by_cases h : i < ln
  ·simp only [h,if_true]; exact hfl i h
  ·simp only [h,if_false]; exact hc7
 ·by_cases h : i < ln
  ·simp only [h,if_true]
   have hx2 : acc[i]? = some x:=by rwa [List.getElem?_append_left (by omega)] at hx
   exact ((hft i x hx2).keep fun p hp => World.cell?_of_block (hkeep _ hp.1 hp.2.1 hp.2.2)).more fun b hb => ⟨hb.1,Nat.lt_of_lt_of_le hb.2.1 hsz,hgo b hb.2.2 hb.2.1⟩
  ·simp only [h,if_false]
   have hxa : x = a:=by
    rw [List.getElem?_append_right (by omega)] at hx
    rw [hln] at hx
    have h0 : i - ln = 0:=by
     rcases Nat.eq_zero_or_pos (i - ln) with h0 | h0
     ·exact h0
     ·rw [List.getElem?_eq_none (by first | (simp; done) | (simp; omega))] at hx; exact absurd hx (by simp)
    rw [h0] at hx
    injection hx with hx
    exact hx.symm
   subst hxa
   have hvo : ∀ b,M ≤ b → v.ownBlock ≠ some b:=fun b hb e => by have:=hvl b e; omega
   refine (hva.keep fun p hp => ?_).more fun b hb => ⟨by have:=hb.1; omega,by have:=hb.2; have:=h21.size; omega,hgo b (hvo b hb.1) (by have:=hb.2; have:=h21.size; omega)⟩
   exact (World.cell?_of_block (hkeep _ (by have:=hp.1; omega) (by have:=hp.2; have:=h21.size; omega) (hvo _ hp.1))).trans (h21.cell hp.2)
end Go.Proofs.YtkigpbkkhgabeaaGreatDoor
