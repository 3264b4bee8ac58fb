import Derived.Test.YtkigpbkkhgabeaaGreatDoorYWyl
import Derived.Test.YtkigpbkkhgabeaaGreatDoorYWrd
import Derived.Test.YtkigpbkkhgabeaaGreatDoorYWrs
set_option linter.unusedVariables false
set_option linter.unusedSimpArgs false
namespace Go.Proofs.YtkigpbkkhgabeaaGreatDoor
open Go.RowKit Go.Lib
theorem depthW (n : Int) : ∃ m : Int,(Go.RowKit.wrap64 (n.tmod 9 + 9)).tmod 9 = m ∧ ¬ (m < 0 ∨ 8 < m):=by
 have h1:=Int.lt_tmod_of_pos n (show (0 : Int) < 9 by omega)
 have h2:=Int.tmod_lt_of_pos n (show (0 : Int) < 9 by omega)
 refine ⟨_,rfl,?_⟩
 have hw : Go.RowKit.wrap64 (n.tmod 9 + 9) = n.tmod 9 + 9:=by unfold Go.RowKit.wrap64; omega
 rw [hw]
 have h3:=Int.tmod_nonneg (9 : Int) (show 0 ≤ n.tmod 9 + 9 by omega)
 have h4:=Int.tmod_lt_of_pos (n.tmod 9 + 9) (show (0 : Int) < 9 by omega)
 omega
set_option maxRecDepth 4000000 in
set_option maxHeartbeats 8000000 in
theorem printerLines_c {S : Nat → Prop} {A : Option Addr} {m c : Nat} {xs : List VT} (n : Int) (w : World) (hG : Gl w.heap.size w) (hl : RdL w S A m xs) (hS : ∀ b,S b → b < w.heap.size) (hm : m ≤ 1256584717458) (hc : m ≤ c) (hn : -9223372036854775808 ≤ n ∧ n ≤ 9223372036854775807) :
  Calls Tryz.prog 6 #[.slice A m c,.int .i64 n] w fun e w' => e = .returned (.bool true) ∧ Below w.heap.size w w':=by
 have h32 : ∀ x ∈ xs,∀ y ∈ partsV x,L32 y.num:=fun x hx => by
  obtain ⟨i,hi,rfl⟩:=List.getElem_of_mem hx
  obtain ⟨b,off,x,cs,-,-,hx2,-,-,hv⟩:=hl.at_ (i:=i) (by rw [← hl.1]; exact hi)
  rw [List.getElem?_eq_getElem hi] at hx2
  injection hx2 with hx2
  rw [hx2]
  exact hv.l32
 have h0 : 0 < w.heap.size:=by have:=hG.lt.1; omega
 have HG:=Lib.hid hG
 have HL:=Lib.hid hl
 have HXM:=Lib.hid hl.1
 have HS:=Lib.hid hS
 have H32:=Lib.hid h32
 have H0:=Lib.hid h0
 clear hG hl hS h32 h0
 go_enter Tryz.func6,Tryz.ntmps6
 go_wp2_with fail
 refine (alive9_c w HG.out).mono ?_
 rintro e9 w1 ⟨rfl,hb1⟩
 have HB1:=Lib.hid hb1
 clear hb1
 go_wp2_with fail
 obtain ⟨k,hkw,hkk⟩:=depthW n
 rw [show (wrap64 (n.tmod 9 + 9)).tmod 9 = k from hkw]
 refine (lines_c (c:=c) k w1 ((HG.out.low HB1.out).up HB1.out.size) (HL.out.keep (w':=w1) fun p hp => HB1.out.cell (HS.out _ hp)) (fun b hb => Nat.lt_of_lt_of_le (HS.out b hb) HB1.out.size) hm hkk).mono ?_
 rintro e9 w2 ⟨he,hb2⟩
 have HB2:=Lib.hid (HB1.out.trans (hb2.mono HB1.out.size))
 clear hb2
 rcases he with ⟨x,hx,rfl⟩ | ⟨hok,rfl⟩
 ·have hx1 : (x == 0) = false:=by simpa using hx
  go_wp2_with (go_at_call 12; refine (lnum9_c _ _).mono ?_; rintro e w' ⟨rfl,rfl⟩)
  go_ret
  exact ⟨rfl,HB2.out⟩
 ·obtain ⟨T,hT⟩ : ∃ T,linesT quoteC numP k.toNat xs = T:=⟨_,rfl⟩
  rw [hT]
  obtain ⟨Q,hQ⟩ : ∃ Q : ByteArray,(⟨T.toArray⟩ : ByteArray) = Q:=⟨_,rfl⟩
  have hQs : Q.size = T.length:=by rw [← hQ]; show T.toArray.size = _; simp
  rw [hQ]
  have HQ:=Lib.hid hQ
  have HT:=Lib.hid hT
  have HOK:=Lib.hid hok
  clear hQ hT hok
  by_cases hbig : 65536 < T.length
  ·go_wp2_with (go_at_call 12; refine (lnum9_c _ _).mono ?_; rintro e w' ⟨rfl,rfl⟩)
   go_ret
   exact ⟨rfl,HB2.out⟩
  ·have hfit : T.length ≤ 65536:=by omega
   have hcv : ∀ W : World,(convert 9 38 (.string Q)).run Tryz.prog W = .ok (.slice (some ⟨W.heap.size,0,none⟩) T.length (grownCap W T.length 0 5)) (Go.Lib.bytesWorld W 5 Q):=fun W => by
    rw [← HQ.out]; exact textConv W T
   have hrd:=fun W : World => rAllW_c (A:=some ⟨W.heap.size,0,none⟩) (c:=grownCap W T.length 0 5) (st:=k.toNat) (xs:=xs) (Go.Lib.bytesWorld W 5 Q) (by rw [← HQ.out]; exact textOct W T) (by rw [Go.Lib.bytesWorld_size]; omega) hfit (grownCap_ge _ _ _ _) HT.out.symm HOK.out H32.out (by rw [Go.Lib.bytesWorld_size]; omega)
   have HRD:=Lib.hid hrd
   clear hrd
   go_wp2_with (go_at_call 12; refine (lnum9_c _ _).mono ?_; rintro e w' ⟨rfl,rfl⟩)
   refine (HRD.out w2).mono ?_
   rintro e9 w3 ⟨he,hb3⟩
   have hs2:=HB2.out.size
   have hsb : (Go.Lib.bytesWorld w2 5 Q).heap.size = w2.heap.size + 1:=Go.Lib.bytesWorld_size _ _ _
   have hB23 : Below w2.heap.size w2 w3:=(textBelow w2 Q).trans (hb3.mono (by omega))
   have HB3:=Lib.hid (HB2.out.trans (hB23.mono hs2))
   have hsz3:=hb3.size
   rcases he with ⟨hle,LA,lc,rfl,hr,hlc⟩ | ⟨hgt,v,kk,rfl⟩
   ·have hml : ¬ (4096 : Int) < (m : Int):=by have:=HXM.out; omega
    have hsa:=sameAll_c (c:=c) (d:=lc) w3 (HL.out.keep (w':=w3) fun p hp => HB3.out.cell (HS.out _ hp)) hr (fun b hb => Nat.lt_of_lt_of_le (HS.out b hb) HB3.out.size) (fun b hb => hb.2) hm (by omega) hc hlc
    rw [show sameV (listV xs) (listV xs) = true from sameV_iff.2 rfl] at hsa
    have HSA:=Lib.hid hsa
    clear hsa hr hb3 hB23 hsb hsz3
    go_wp2_with (go_at_call 12; refine (lnum9_c _ _).mono ?_; rintro e w' ⟨rfl,rfl⟩)
    refine HSA.out.mono ?_
    rintro e9 w4 ⟨rfl,hb4⟩
    go_wp2_with fail
    go_ret
    exact ⟨rfl,HB3.out.trans (hb4.mono HB3.out.size)⟩
   ·have hml : (4096 : Int) < (m : Int):=by have:=HXM.out; omega
    clear hb3 hB23 hsb hsz3
    go_wp2_with (go_at_call 12; refine (lnum9_c _ _).mono ?_; rintro e w' ⟨rfl,rfl⟩)
    go_ret
    exact ⟨rfl,HB3.out⟩
end Go.Proofs.YtkigpbkkhgabeaaGreatDoor
