import Derived.Test.YtkigpbkkhgabeaaGreatDoorYWpg
import Derived.Test.YtkigpbkkhgabeaaGreatDoorYNlimb
import Derived.WalkKit
import Derived.Laws.Bits64b
import Derived.Laws.IdiomStrings
import Derived.Deep.QuietTactic
import Derived.BigQuiet
set_option linter.unusedVariables false
set_option linter.unusedSimpArgs false
namespace Go.Proofs.YtkigpbkkhgabeaaGreatDoor
open Go.RowKit Go.Lib
theorem strCells_bytes (s : ByteArray) : strCells s = byteCells s.data.toList:=by
 unfold strCells byteCells
 rfl
theorem byteCells_app (a b : List UInt8) : byteCells (a ++ b) = byteCells a ++ byteCells b:=by unfold byteCells; rw [List.map_append]
theorem Soft.grown {B pb : Nat} {w w' : World} {v : Value} {n : Nat} {xs : List Value} (h : w.ownsRow B 5 1 v n xs) (hg : w.grownBy w' v.ownBlock) : Soft B pb w w' :=
 ⟨hg.os,hg.tape,hg.output,hg.size,fun k hk hp hc => hg.block k hk (fun e => by
  rcases h.2 with ⟨rfl,_⟩ | ⟨g,cap,cur,rfl,e2,e3,_⟩
  ·simp [Value.ownBlock] at e
  ·simp only [Value.ownBlock,Option.some.injEq] at e
   subst e
   rcases hc with hc | hc
   ·omega
   ·exact hc _ _ e3)⟩
set_option maxHeartbeats 1000000 in
set_option maxRecDepth 100000 in
theorem writeStr_c {B pb : Nat} {bs : List UInt8} {room st o : Nat} {F : Value} (w : World) (hP : Pg B pb bs room st o F w) (s : ByteArray) (hcap : bs.length + s.size ≤ 140737488355328) (hB : B ≤ w.heap.size) :
  Calls Tryz.prog 38 #[pgP pb,.string s] w fun e w' => e = .returned (.tuple #[.int .i64 s.size,.nilIface]) ∧ Pg B pb (bs ++ s.data.toList) room st o F w' ∧ Soft B pb w w':=by
 obtain ⟨i0,hi,hz0,hz1,hz2⟩:=info_parts infoU8
 obtain ⟨p,v,hp,hx,hown⟩:=hP.box
 have HB:=Lib.hid hP.base
 have HT:=Lib.hid hP.top
 have HX:=Lib.hid hx
 have HO:=Lib.hid hown
 clear hP hx hown
 go_enter Tryz.func38,Tryz.ntmps38
 go_wp2_with fail
 refine (copyCheck_c w HX.out hp).mono ?_
 rintro e w1 ⟨rfl,hw1⟩
 have hb1 : w1.heap[pb]? = some (pgO (.pointer (some ⟨pb,0,none⟩)) v room st o F):=by
  rcases hw1 with ⟨rfl,rfl⟩ | rfl
  ·exact HX.out
  ·simpa using set_page (i:=0) (.pointer (some ⟨pb,0,none⟩)) HX.out
 have ho1 : w1.ownsRow B 5 1 v bs.length (byteCells bs):=by
  rcases hw1 with ⟨rfl,rfl⟩ | rfl
  ·exact HO.out
  ·exact row_set 0 _ HX.out HO.out
 have hs1 : Soft B pb w w1:=by
  rcases hw1 with ⟨rfl,rfl⟩ | rfl
  ·exact Soft.refl _ _ _
  ·exact Soft.set _ _ _
 have c0 : w1.cell? ⟨pb,0,none⟩ = some (.pointer (some ⟨pb,0,none⟩)):=cell_at3 hb1 rfl
 have c1 : w1.cell? ⟨pb,1,none⟩ = some v:=cell_at3 hb1 rfl
 have hsz1 : B ≤ w1.heap.size:=Nat.le_trans hB hs1.size
 have HB1:=Lib.hid hb1
 have HS1:=Lib.hid hs1
 clear hb1 hs1 hw1 hp
 go_wp2_with (at_builtin; refine Lib.wpList_append_own_string _ rfl _ _ 38 9 rfl B 5 i0 Tryz.underlying38 Tryz.underlying9 hi hz0 hz1 hz2 _ _ _ rfl ho1 s rfl ?c3 ?c4 ?c5 ?_)
 case c3 => unfold maxLen; omega
 case c4 => omega
 case c5 => exact hsz1
 intro v' w2 hown' hgrow _
 have hs2 : Soft B pb w1 w2:=Soft.grown ho1 hgrow
 have hb2:=hs2.keep HB1.out
 have hlt : pb < w1.heap.size:=(Array.getElem?_eq_some_iff.1 HB1.out).1
 have hne : v.ownBlock ≠ some pb:=fun e => by
  rcases ho1.2 with ⟨rfl,_⟩ | ⟨g,cap,cur,rfl,e2,e3,_⟩
  ·simp [Value.ownBlock] at e
  ·simp only [Value.ownBlock,Option.some.injEq] at e
   exact row_ne (B:=B) HB1.out e3 e
 have hb2 : w2.heap[pb]? = some (pgO (.pointer (some ⟨pb,0,none⟩)) v room st o F):=(hgrow.block pb hlt (fun e => hne e.symm)).trans HB1.out
 have d0 : w2.cell? ⟨pb,0,none⟩ = some (.pointer (some ⟨pb,0,none⟩)):=cell_at3 hb2 rfl
 have d1 : w2.cell? ⟨pb,1,none⟩ = some v:=cell_at3 hb2 rfl
 have f1 : w2.frozen? ⟨pb,1,none⟩ = false:=by simp [World.frozen?,hb2]
 obtain ⟨ao,n',cap,rfl⟩ : ∃ ao n' cap,v' = .slice ao n' cap:=by
  rcases hown'.2 with ⟨hv,_⟩ | ⟨g,cap,cur,hv,_⟩
  ·exact ⟨_,_,_,hv⟩
  ·exact ⟨_,_,_,hv⟩
 have HB2:=Lib.hid hb2
 have HO2:=Lib.hid hown'
 have HS2:=Lib.hid hs2
 clear hb2 hown' hs2 hgrow c0 c1 ho1
 go_wp2
 go_ret2
 have hl : (bs ++ s.data.toList).length = bs.length + s.size:=by rw [List.length_append,Array.length_toList]; rfl
 refine ⟨rfl,⟨HB.out,⟨.pointer (some ⟨pb,0,none⟩),_,.inr rfl,by simpa using set_page (i:=1) (.slice ao n' cap) HB2.out,?_⟩,HT.out⟩,(HS1.out.trans HS2.out).trans (Soft.set _ _ _)⟩
 rw [hl,byteCells_app,← strCells_bytes]
 exact row_set 1 _ HB2.out HO2.out
set_option maxHeartbeats 1000000 in
set_option maxRecDepth 100000 in
theorem put_c {B pb : Nat} {bs : List UInt8} {room st o : Nat} {F : Value} (w : World) (hP : Pg B pb bs room st o F w) (s : ByteArray) (hcap : room < s.size ∨ bs.length + s.size ≤ 140737488355328) (hB : B ≤ w.heap.size) :
  Calls Tryz.prog 47 #[pgP pb,.string s] w (Wr B pb bs room st o F w s.data.toList):=by
 have hpn : ∀ (T : Nat) (v : Value) (w : World),(Instr.panic (.iface T v)).run Tryz.prog w = .halt (.panic (.iface T v)) w:=fun _ _ _ => rfl
 have hl : s.data.toList.length = s.size:=by rw [Array.length_toList]; rfl
 obtain ⟨c2,c3,c4,c5⟩:=hP.cells
 have htop:=hP.top
 have HP:=Lib.hid hP
 clear hP c3 c4 c5
 by_cases hr : room < s.size
 ·have hr2 : (room : Int) < (s.size : Int):=by omega
  go_enter Tryz.func47,Tryz.ntmps47
  go_wp2_with fail
  exact ⟨rfl,Wr.no (by rw [hl]; exact hr) (Soft.refl _ _ _)⟩
 ·have hr2 : ¬ (room : Int) < (s.size : Int):=by omega
  have hcap2:=hcap.resolve_left hr
  go_enter Tryz.func47,Tryz.ntmps47
  go_wp2_with fail
  refine (writeStr_c w HP.out s hcap2 hB).mono ?_
  rintro e w1 ⟨rfl,hP1,hS1⟩
  obtain ⟨d2,d3,d4,d5⟩:=hP1.cells
  have f2:=hP1.frozen 2
  have hw : IntKind.i64.wrap ((room : Int) - (s.size : Int)) = (room : Int) - (s.size : Int):=IntWalk.i64_in _ (by omega)
  have HP1:=Lib.hid hP1
  have HS1:=Lib.hid hS1
  clear hP1 hS1 d3 d4 d5 c2
  go_wp2_with fail
  first | go_end0 | refine bodyPost_ret (results_none rfl _ _ _) rfl ?_
  have h:=HP1.out.room (r:=room - s.size) (by omega)
  rw [show ((room - s.size : Nat) : Int) = (room : Int) - (s.size : Int) by omega] at h
  refine Wr.done (by rw [hl]; omega) ?_ (HS1.out.trans (Soft.set _ _ _))
  rw [hl]; exact h
theorem putL_c {B pb : Nat} {bs : List UInt8} {room st o : Nat} {F : Value} (w : World) (hP : Pg B pb bs room st o F w) (s : ByteArray) (l : List UInt8) (hl : s.data.toList = l) (hcap : room < l.length ∨ bs.length + l.length ≤ 140737488355328) (hB : B ≤ w.heap.size) :
  Calls Tryz.prog 47 #[pgP pb,.string s] w (Wr B pb bs room st o F w l):=by
 have hsz : s.size = l.length:=by rw [← hl,Array.length_toList]; rfl
 rw [← hl]
 exact put_c w hP s (by rw [hsz]; exact hcap) hB
end Go.Proofs.YtkigpbkkhgabeaaGreatDoor
namespace Go.Proofs.YtkigpbkkhgabeaaGreatDoor
open Go.RowKit Go.Lib
set_option maxRecDepth 100000 in
theorem isPow_c (w : World) : Calls Tryz.prog 162 #[.int .i64 16] w fun e w' => e = .returned (.bool true) ∧ w = w':=by
 have hb : bits BinOp.and IntKind.i64 16 15 = 0:=by kernel_rfl
 go_enter Tryz.func162,Tryz.ntmps162
 go_wp2_with fail
 go_ret
 exact ⟨rfl,rfl⟩
set_option maxRecDepth 100000 in
theorem tz_c (w : World) (ht : w.cell? ⟨5,15,none⟩ = some (.int .u8 4)) : Calls Tryz.prog 163 #[.int .u64 16] w fun e w' => e = .returned (.int .i64 4) ∧ w = w':=by
 have h64 : Calls Tryz.prog 165 #[.int .u64 16] w fun e w' => e = .returned (.int .i64 4) ∧ w = w':=by
  have hw1 : IntKind.u64.wrap (-16) = 18446744073709551600:=by kernel_rfl
  have hb : bits BinOp.and IntKind.u64 16 18446744073709551600 = 16:=by kernel_rfl
  have hw2 : IntKind.u64.wrap (16 * 285870213051353865) / 288230376151711744 = 15:=by kernel_rfl
  have hw3 : IntKind.u64.wrap 4573923408821661840 / 288230376151711744 = 15:=by kernel_rfl
  go_enter Tryz.func165,Tryz.ntmps165
  go_wp2_with fail
  go_ret
  exact ⟨rfl,rfl⟩
 go_enter Tryz.func163,Tryz.ntmps163
 go_wp2_with fail
 refine h64.mono ?_
 rintro e w1 ⟨rfl,rfl⟩
 go_wp2_with fail
 go_ret
 exact ⟨rfl,rfl⟩
def fw (w : World) (b d : Nat) : Nat → World
 | 0 => w
 | k + 1 => (fw w b d k).setCell ⟨b,64 - k,none⟩ (.int .u8 ((hxD ((65536 + d) / 16 ^ k % 16)).toNat : Int))
theorem fw_heap {w : World} {b d : Nat} {vs : Array Value} {t : TypeId} (h : w.heap[b]? = some (.cells vs t)) (hs : vs.size = 65) : ∀ k,k ≤ 4 → ∃ us : Array Value,us.size = 65 ∧ (fw w b d k).heap[b]? = some (.cells us t) ∧ ∀ j,j < k → us[64 - j]? = some (.int .u8 ((hxD ((65536 + d) / 16 ^ j % 16)).toNat : Int))
 | 0,_ => ⟨vs,hs,h,fun j hj => absurd hj (by omega)⟩
 | k + 1,hk => by
  obtain ⟨us,h1,h2,h3⟩:=fw_heap h hs k (by omega)
  refine ⟨us.set! (64 - k) (.int .u8 ((hxD ((65536 + d) / 16 ^ k % 16)).toNat : Int)),by simpa using h1,?_,fun j hj => ?_⟩
  ·show ((fw w b d k).heap.modify b _)[b]? = _
   have hlt:=(Array.getElem?_eq_some_iff.1 h2).1
   rw [Array.getElem?_eq_getElem hlt] at h2
   injection h2 with h2
   rw [Array.getElem?_modify,if_pos rfl,Array.getElem?_eq_getElem hlt,h2]
   rfl
  ·by_cases hjk : j = k
   ·subst hjk
    simp [Array.getElem?_setIfInBounds,h1]; omega
   ·have:=h3 j (by omega)
    simp only [Array.set!_eq_setIfInBounds,Array.getElem?_setIfInBounds]
    rw [if_neg (by omega)]
    exact this
theorem fw_below {w : World} {b d B : Nat} (hb : B ≤ b) : ∀ k,Below B w (fw w b d k)
 | 0 => Below.refl _ _
 | k + 1 => (fw_below hb k).setCell (p:=⟨b,64 - k,none⟩) hb _
theorem dig16 {x : Nat} (h : x < 16) : ∀ hx : x < (⟨#[48,49,50,51,52,53,54,55,56,57,97,98,99,100,101,102,103,104,105,106,107,108,109,110,111,112,113,114,115,116,117,118,119,120,121,122]⟩ : ByteArray).size,
  (⟨#[48,49,50,51,52,53,54,55,56,57,97,98,99,100,101,102,103,104,105,106,107,108,109,110,111,112,113,114,115,116,117,118,119,120,121,122]⟩ : ByteArray)[x] = hxD x:=by
 have hc : x = 0 ∨ x = 1 ∨ x = 2 ∨ x = 3 ∨ x = 4 ∨ x = 5 ∨ x = 6 ∨ x = 7 ∨ x = 8 ∨ x = 9 ∨ x = 10 ∨ x = 11 ∨ x = 12 ∨ x = 13 ∨ x = 14 ∨ x = 15:=by omega
 rcases hc with rfl | rfl | rfl | rfl | rfl | rfl | rfl | rfl | rfl | rfl | rfl | rfl | rfl | rfl | rfl | rfl <;> intro _ <;> rfl
set_option maxRecDepth 100000 in
set_option maxHeartbeats 1000000 in
theorem fBits_c (d : Nat) (hd : d < 65536) (w : World) (ht : w.cell? ⟨5,15,none⟩ = some (.int .u8 4)) :
  Calls Tryz.prog 156 #[.slice none 0 0,.int .u64 ((65536 + d : Nat) : Int),.int .i64 16,.bool false,.bool false] w fun e w' => e = .returned (.tuple #[.slice none 0 0,.string ⟨(49 :: (dg4 d).map hxD).toArray⟩]) ∧ Below w.heap.size w w':=by
 have ht1 : ∀ o,(w.alloc o).cell? ⟨5,15,none⟩ = some (.int .u8 4):=fun o => by
  rw [World.cell?_of_block (Below.heap_alloc _ _ _ (cell_lt ht))]; exact ht
 have hnew:=fun o => World.alloc_heap_new w o
 go_enter Tryz.func156,Tryz.ntmps156
 go_wp2_with fail
 refine (isPow_c _).mono ?_
 rintro e w1 ⟨rfl,rfl⟩
 go_wp2_with fail
 refine (tz_c _ (ht1 _)).mono ?_
 rintro e w1 ⟨rfl,rfl⟩
 obtain ⟨W0,hW0⟩ : ∃ W0,W0 = w.alloc (.cells Tryz.zeroCells190 190):=⟨_,rfl⟩
 have hB0 : W0.heap[w.heap.size]? = some (.cells Tryz.zeroCells190 190):=by rw [hW0]; exact hnew _
 have hsz0 : (Tryz.zeroCells190).size = 65:=by kernel_rfl
 have hbel : Below w.heap.size w W0:=by rw [hW0]; exact (Below.refl _ _).alloc (Nat.le_refl _) _
 rw [← hW0]
 obtain ⟨b,hb⟩ : ∃ b,w.heap.size = b:=⟨_,rfl⟩
 rw [hb] at hB0 hbel ⊢
 have HBB:=Lib.hid hb
 clear hW0 hnew ht1 hb
 have HB0:=Lib.hid hB0
 have HBEL:=Lib.hid hbel
 have HSZ:=Lib.hid hsz0
 clear hB0 hbel hsz0
 go_wp2_with fail
 go_loopw [1,13] (fun u i wr => ∃ k q : Nat,k ≤ 4 ∧ Hid ((65536 + d) / 16 ^ k = q) ∧ u = .int .u64 (q : Int) ∧ i = .int .i64 ((65 - k : Nat) : Int) ∧ Hid (wr = fw W0 b d k)) (fun u _ _ => (RowKit.intOf u).toNat)
 case atStart => exact ⟨0,65536 + d,by omega,by show _ = _; simp,by simp,by simp,rfl⟩
 case round =>
  obtain ⟨k,q,hk,hq,rfl,rfl,hwr⟩:=hrel
  obtain ⟨us,hus,hh,hd4⟩:=fw_heap (d:=d) HB0.out HSZ.out k hk
  rw [← hwr.out] at hh
  by_cases h16 : 16 ≤ q
  ·have hk3 : k < 4:=by
    rcases Nat.lt_or_ge k 4 with h | h
    ·exact h
    ·have e : k = 4:=by omega
     have h2:=hq.out
     rw [e] at h2
     exfalso
     omega
   have hqb : q ≤ 131071:=by
    rw [← hq.out]
    exact Nat.le_trans (Nat.div_le_self _ _) (by omega)
   have hi16 : (16 : Int) ≤ (q : Int):=by omega
   have hsub : IntKind.i64.wrap (((65 - k : Nat) : Int) - 1) = ((64 - k : Nat) : Int):=by rw [IntWalk.i64_in _ (by omega)]; omega
   have hand : bits BinOp.and IntKind.u64 (q : Int) 15 = ((q % 16 : Nat) : Int):=by
    have:=bits_and_u64_nat q 15 (by omega) (by omega)
    rw [show q &&& 15 = q % 16 from Nat.and_two_pow_sub_one_eq_mod q 4] at this
    exact this
   obtain ⟨x,hx⟩ : ∃ x,q % 16 = x:=⟨_,rfl⟩
   rw [hx] at hand
   have hx16 : x < 16:=by omega
   have c0 : wr.cell? ⟨b,64 - k,none⟩ = some us[64 - k]:=cell_at hh (Array.getElem?_eq_getElem (by omega))
   have f0 : wr.frozen? ⟨b,64 - k,none⟩ = false:=by simp [World.frozen?,hh]
   clear hh hd4
   go_wp2_with fail
   go_roundw
   case rel =>
    refine ⟨k + 1,q / 16,by omega,?_,by simp,by rw [show 65 - (k + 1) = 64 - k by omega],?_⟩
    ·show _ = _
     rw [Nat.pow_succ,← Nat.div_div_eq_div_mul,hq.out]
    ·show _ = _
     rw [hwr.out]
     show _ = (fw W0 b d k).setCell ⟨b,64 - k,none⟩ (.int .u8 ((hxD ((65536 + d) / 16 ^ k % 16)).toNat : Int))
     rw [hq.out,hx,dig16 hx16]
   case measure => simp [RowKit.intOf]; omega
  ·clear hh
   have hi16 : ¬ (16 : Int) ≤ (q : Int):=by omega
   have hk4 : k = 4:=by
    rcases Nat.lt_or_ge k 4 with h | h
    ·exfalso
     have h2:=hq.out
     have h3 : k = 0 ∨ k = 1 ∨ k = 2 ∨ k = 3:=by omega
     rcases h3 with e | e | e | e <;> rw [e] at h2 <;> omega
    ·omega
   have hq1 : q = 1:=by
    have h2:=hq.out
    rw [hk4] at h2
    omega
   subst hk4 hq1
   obtain ⟨us,hus,hh,hd4⟩:=fw_heap (d:=d) HB0.out HSZ.out 4 (by omega)
   rw [← hwr.out] at hh
   have hnf : ∀ i,wr.frozen? ⟨b,i,none⟩ = false:=fun i => by simp [World.frozen?,hh]
   have c60 : wr.cell? ⟨b,60,none⟩ = some us[60]:=cell_at hh (Array.getElem?_eq_getElem (by omega))
   have f60:=hnf 60
   have hset:=set_page (i:=60) (.int .u8 (49 : Int)) hh
   have hcv : (convert 38 9 (.slice (some ⟨b,60,none⟩) 5 5)).run Tryz.prog (wr.setCell ⟨b,60,none⟩ (.int .u8 49)) = .ok (.string ⟨(49 :: (dg4 d).map hxD).toArray⟩) (wr.setCell ⟨b,60,none⟩ (.int .u8 49)):=by
    refine run_convert_bytes_back _ _ _ _ ⟨b,60,none⟩ 5 (49 :: (dg4 d).map hxD) Tryz.underlying38 Tryz.underlying5 Tryz.underlying9 (fun j hj => ?_)
    have hj5 : j < 5:=hj
    rw [show (⟨b,60,none⟩ : Addr).add j = ⟨b,60 + j,none⟩ from by unfold Addr.add; split <;> simp_all]
    refine cell_at hset ?_
    show (us.set! 60 (.int .u8 49))[60 + j]? = _
    have h0:=hd4 0 (by omega)
    have h1:=hd4 1 (by omega)
    have h2:=hd4 2 (by omega)
    have h3:=hd4 3 (by omega)
    have hjc : j = 0 ∨ j = 1 ∨ j = 2 ∨ j = 3 ∨ j = 4:=by omega
    have e0 : (65536 + d) / 16 ^ 0 % 16 = d % 16:=by omega
    have e1 : (65536 + d) / 16 ^ 1 % 16 = d / 16 % 16:=by omega
    have e2 : (65536 + d) / 16 ^ 2 % 16 = d / 256 % 16:=by omega
    have e3 : (65536 + d) / 16 ^ 3 % 16 = d / 4096:=by omega
    rw [e0] at h0
    rw [e1] at h1
    rw [e2] at h2
    rw [e3] at h3
    rcases hjc with rfl | rfl | rfl | rfl | rfl
    ·simp [Array.getElem?_setIfInBounds,hus]
    ·simp only [Array.set!_eq_setIfInBounds,Array.getElem?_setIfInBounds]; rw [if_neg (by omega)]; exact h3
    ·simp only [Array.set!_eq_setIfInBounds,Array.getElem?_setIfInBounds]; rw [if_neg (by omega)]; exact h2
    ·simp only [Array.set!_eq_setIfInBounds,Array.getElem?_setIfInBounds]; rw [if_neg (by omega)]; exact h1
    ·simp only [Array.set!_eq_setIfInBounds,Array.getElem?_setIfInBounds]; rw [if_neg (by omega)]; exact h0
   have hbel : Below b w (wr.setCell ⟨b,60,none⟩ (.int .u8 49)):=by
    rw [hwr.out]
    exact (HBEL.out.trans (fw_below (Nat.le_refl _) 4)).setCell (p:=⟨b,60,none⟩) (Nat.le_refl _) _
   have hdg : ∀ hx : 1 < (⟨#[48,49,50,51,52,53,54,55,56,57,97,98,99,100,101,102,103,104,105,106,107,108,109,110,111,112,113,114,115,116,117,118,119,120,121,122]⟩ : ByteArray).size,((⟨#[48,49,50,51,52,53,54,55,56,57,97,98,99,100,101,102,103,104,105,106,107,108,109,110,111,112,113,114,115,116,117,118,119,120,121,122]⟩ : ByteArray)[1].toNat : Int) = 49:=fun _ => rfl
   have HH:=Lib.hid hh
   have HD:=Lib.hid hd4
   have HBL:=Lib.hid hbel
   clear hh hd4 hset hbel
   go_wp2_with fail
   go_ret2
   exact ⟨rfl,by rw [HBB.out]; exact HBL.out⟩
set_option maxRecDepth 100000 in
set_option maxHeartbeats 1000000 in
theorem formatInt_c (d : Nat) (hd : d < 65536) (w : World) (ht : w.cell? ⟨5,15,none⟩ = some (.int .u8 4)) :
  Calls Tryz.prog 124 #[.int .i64 ((65536 + d : Nat) : Int),.int .i64 16] w fun e w' => e = .returned (.string ⟨(49 :: (dg4 d).map hxD).toArray⟩) ∧ Below w.heap.size w w':=by
 have hin : Calls Tryz.prog 144 #[.int .i64 ((65536 + d : Nat) : Int),.int .i64 16] w fun e w' => e = .returned (.string ⟨(49 :: (dg4 d).map hxD).toArray⟩) ∧ Below w.heap.size w w':=by
  have hb:=fBits_c d hd w ht
  have hw : IntKind.u64.wrap ((65536 + d : Nat) : Int) = ((65536 + d : Nat) : Int):=IntWalk.u64_in _ (by omega)
  obtain ⟨q,hq⟩ : ∃ q,65536 + d = q:=⟨_,rfl⟩
  rw [hq] at hb hw ⊢
  have hq0 : ¬ (q : Int) < 0:=by omega
  go_enter Tryz.func144,Tryz.ntmps144
  go_wp2_with fail
  refine hb.mono ?_
  rintro e w1 ⟨rfl,hb1⟩
  go_wp2_with fail
  go_ret
  exact ⟨rfl,hb1⟩
 go_enter Tryz.func124,Tryz.ntmps124
 go_wp2_with fail
 refine hin.mono ?_
 rintro e w1 ⟨rfl,hb⟩
 go_wp2_with fail
 go_ret
 exact ⟨rfl,hb⟩
theorem coded_str (n : Nat) : (⟨#[92,117]⟩ : ByteArray) ++ (⟨(49 :: (dg4 n).map hxD).toArray⟩ : ByteArray).extract 1 ((dg4 n).length + 1) = ⟨(codedL n).toArray⟩:=by
 apply ByteArray.ext
 rw [ByteArray.data_append,ByteArray.data_extract]
 simp [codedL,dg4]
set_option maxRecDepth 100000 in
set_option maxHeartbeats 1000000 in
theorem pcoded_c (n : Nat) (hn : n < 65536) (w : World) (ht : w.cell? ⟨5,15,none⟩ = some (.int .u8 4)) :
  Calls Tryz.prog 89 #[.int .i32 (n : Int)] w fun e w' => e = .returned (.string ⟨(codedL n).toArray⟩) ∧ Below w.heap.size w w':=by
 have hf:=formatInt_c n hn w ht
 have hw : IntKind.i64.wrap (n : Int) = (n : Int):=IntWalk.i64_in _ (by omega)
 have hw2 : IntKind.i64.wrap (65536 + (n : Int)) = ((65536 + n : Nat) : Int):=by rw [IntWalk.i64_in _ (by omega)]; omega
 have hw3 : IntKind.i64.wrap ((n : Int) + 65536) = ((65536 + n : Nat) : Int):=by rw [IntWalk.i64_in _ (by omega)]; omega
 obtain ⟨q,hq⟩ : ∃ q,65536 + n = q:=⟨_,rfl⟩
 rw [hq] at hf hw2 hw3
 clear hq
 go_enter Tryz.func89,Tryz.ntmps89
 go_wp2_with fail
 refine hf.mono ?_
 rintro e w1 ⟨rfl,hb1⟩
 go_wp2_with fail
 go_ret
 exact ⟨by rw [coded_str]; rfl,hb1⟩
end Go.Proofs.YtkigpbkkhgabeaaGreatDoor
namespace Go.Proofs.YtkigpbkkhgabeaaGreatDoor
open Go.RowKit Go.Lib
def plainB (c : Int) : Bool:=decide (32 ≤ c) && !(c == 34) && !(c == 92) && !(c == 127)
set_option maxRecDepth 100000 in
theorem isPlain_c (c : Int) (w : World) (h0 : 0 ≤ c) (h1 : c ≤ 1114111) : Calls Tryz.prog 24 #[.int .i32 c] w fun e w' => e = .returned (.bool (plainB c)) ∧ w = w':=by
 go_enter Tryz.func24,Tryz.ntmps24
 go_wp2_with fail
 all_goals
  go_ret
  refine ⟨?_,rfl⟩
  first
   | (simp_all [plainB,bne]; done)
   | (simp_all [plainB,bne]; omega)
theorem ix_none {n : Nat} (h : n < 32 ∨ n = 127) (h8 : n ≠ 8) (h9 : n ≠ 9) (h10 : n ≠ 10) (h12 : n ≠ 12) (h13 : n ≠ 13) : Lib.indexByte [34,92,8,9,10,12,13] ((n : Int).toNat.toUInt8) = -1:=by
 have hc : n = 0 ∨ n = 1 ∨ n = 2 ∨ n = 3 ∨ n = 4 ∨ n = 5 ∨ n = 6 ∨ n = 7 ∨ n = 11 ∨ n = 14 ∨ n = 15 ∨ n = 16 ∨ n = 17 ∨ n = 18 ∨ n = 19 ∨ n = 20 ∨ n = 21 ∨ n = 22 ∨ n = 23 ∨ n = 24 ∨ n = 25 ∨ n = 26 ∨ n = 27 ∨ n = 28 ∨ n = 29 ∨ n = 30 ∨ n = 31 ∨ n = 127:=by omega
 rcases hc with rfl | rfl | rfl | rfl | rfl | rfl | rfl | rfl | rfl | rfl | rfl | rfl | rfl | rfl | rfl | rfl | rfl | rfl | rfl | rfl | rfl | rfl | rfl | rfl | rfl | rfl | rfl | rfl <;> rfl
theorem quote_coded {n : Nat} (h : n < 32 ∨ n = 127) (h8 : n ≠ 8) (h9 : n ≠ 9) (h10 : n ≠ 10) (h12 : n ≠ 12) (h13 : n ≠ 13) : quoteC (n : Int) = codedL n:=by
 have hc : n = 0 ∨ n = 1 ∨ n = 2 ∨ n = 3 ∨ n = 4 ∨ n = 5 ∨ n = 6 ∨ n = 7 ∨ n = 11 ∨ n = 14 ∨ n = 15 ∨ n = 16 ∨ n = 17 ∨ n = 18 ∨ n = 19 ∨ n = 20 ∨ n = 21 ∨ n = 22 ∨ n = 23 ∨ n = 24 ∨ n = 25 ∨ n = 26 ∨ n = 27 ∨ n = 28 ∨ n = 29 ∨ n = 30 ∨ n = 31 ∨ n = 127:=by omega
 rcases hc with rfl | rfl | rfl | rfl | rfl | rfl | rfl | rfl | rfl | rfl | rfl | rfl | rfl | rfl | rfl | rfl | rfl | rfl | rfl | rfl | rfl | rfl | rfl | rfl | rfl | rfl | rfl | rfl <;> rfl
set_option maxRecDepth 100000 in
set_option maxHeartbeats 1000000 in
theorem escCoded_c (n : Nat) (hix : (n : Int) < 128 → Lib.indexByte [34,92,8,9,10,12,13] ((n : Int).toNat.toUInt8) = -1) (hn : n < 128) (w : World) (ht : w.cell? ⟨5,15,none⟩ = some (.int .u8 4)) :
  Calls Tryz.prog 56 #[.int .i32 (n : Int)] w fun e w' => e = .returned (.string ⟨(codedL n).toArray⟩) ∧ Below w.heap.size w w':=by
 have hi:=Tryz.strings_IndexRune_ascii ⟨#[34,92,8,9,10,12,13]⟩ (n : Int) w (by omega) (by omega)
 have hx:=hix (by omega)
 have hlist : (⟨#[34,92,8,9,10,12,13]⟩ : ByteArray).data.toList = [34,92,8,9,10,12,13]:=rfl
 rw [hlist,hx] at hi
 have hc:=pcoded_c n (by omega) w ht
 have hle : (n : Int) ≤ 65535:=by omega
 clear hix hx hlist
 go_enter Tryz.func56,Tryz.ntmps56
 go_wp2_with fail
 refine hi.mono ?_
 rintro e w1 ⟨rfl,rfl⟩
 go_wp2_with fail
 refine hc.mono ?_
 rintro e w1 ⟨rfl,hb⟩
 go_wp2_with fail
 go_ret
 exact ⟨rfl,hb⟩
set_option maxRecDepth 100000 in
set_option maxHeartbeats 1000000 in
theorem escShort_c (c k : Nat) (x : UInt8) (hc : (c,k,x) = (34,0,34) ∨ (c,k,x) = (92,1,92) ∨ (c,k,x) = (8,2,98) ∨ (c,k,x) = (9,3,116) ∨ (c,k,x) = (10,4,110) ∨ (c,k,x) = (12,5,102) ∨ (c,k,x) = (13,6,114)) (w : World) :
  Calls Tryz.prog 56 #[.int .i32 (c : Int)] w fun e w' => e = .returned (.string ⟨#[92,x]⟩) ∧ w = w':=by
 have hlist : (⟨#[34,92,8,9,10,12,13]⟩ : ByteArray).data.toList = [34,92,8,9,10,12,13]:=rfl
 have hi:=Tryz.strings_IndexRune_ascii ⟨#[34,92,8,9,10,12,13]⟩ (c : Int) w (by omega) (by rcases hc with h | h | h | h | h | h | h <;> injection h with h1 _ <;> omega)
 have hx : Lib.indexByte [34,92,8,9,10,12,13] ((c : Int).toNat.toUInt8) = (k : Int):=by
  rcases hc with h | h | h | h | h | h | h <;> injection h with h1 h2 <;> injection h2 with h2 h3 <;> subst h1 h2 <;> rfl
 have hk : k < 7:=by rcases hc with h | h | h | h | h | h | h <;> injection h with h1 h2 <;> injection h2 with h2 h3 <;> omega
 have hs : (⟨#[92]⟩ : ByteArray) ++ (⟨#[34,92,98,116,110,102,114]⟩ : ByteArray).extract k (k + 1) = ⟨#[92,x]⟩:=by
  rcases hc with h | h | h | h | h | h | h <;> injection h with h1 h2 <;> injection h2 with h2 h3 <;> subst h1 h2 h3 <;> rfl
 rw [hlist,hx] at hi
 clear hx hlist hc
 have hk0 : (0 : Int) ≤ (k : Int):=by omega
 have hkw : IntKind.i64.wrap ((k : Int) + 1) = ((k + 1 : Nat) : Int):=by rw [IntWalk.i64_in _ (by omega)]; omega
 go_enter Tryz.func56,Tryz.ntmps56
 go_wp2_with fail
 refine hi.mono ?_
 rintro e w1 ⟨rfl,rfl⟩
 go_wp2_with fail
 go_ret
 exact ⟨rfl,rfl⟩
theorem escLow_c (c : Int) (h0 : 0 ≤ c) (h : plainB c = false) (hc : c < 128) (w : World) (ht : w.cell? ⟨5,15,none⟩ = some (.int .u8 4)) :
  Calls Tryz.prog 56 #[.int .i32 c] w fun e w' => e = .returned (.string ⟨(quoteC c).toArray⟩) ∧ Below w.heap.size w w':=by
 obtain ⟨n,rfl⟩ : ∃ n : Nat,c = (n : Int):=⟨c.toNat,by omega⟩
 have hn : n < 32 ∨ n = 34 ∨ n = 92 ∨ n = 127:=by
  unfold plainB at h
  simp only [Bool.and_eq_false_iff,decide_eq_false_iff_not,Bool.not_eq_false',beq_iff_eq] at h
  omega
 have hs : (n = 34 ∨ n = 92 ∨ n = 8 ∨ n = 9 ∨ n = 10 ∨ n = 12 ∨ n = 13) ∨ ((n < 32 ∨ n = 127) ∧ n ≠ 8 ∧ n ≠ 9 ∧ n ≠ 10 ∧ n ≠ 12 ∧ n ≠ 13):=by omega
 rcases hs with hs | ⟨h1,h8,h9,h10,h12,h13⟩
 ·obtain ⟨k,x,hk,hx⟩ : ∃ k x,((n,k,x) = (34,0,34) ∨ (n,k,x) = (92,1,92) ∨ (n,k,x) = (8,2,98) ∨ (n,k,x) = (9,3,116) ∨ (n,k,x) = (10,4,110) ∨ (n,k,x) = (12,5,102) ∨ (n,k,x) = (13,6,114)) ∧ quoteC (n : Int) = [92,x]:=by
   rcases hs with rfl | rfl | rfl | rfl | rfl | rfl | rfl
   ·exact ⟨0,34,by simp,rfl⟩
   ·exact ⟨1,92,by simp,rfl⟩
   ·exact ⟨2,98,by simp,rfl⟩
   ·exact ⟨3,116,by simp,rfl⟩
   ·exact ⟨4,110,by simp,rfl⟩
   ·exact ⟨5,102,by simp,rfl⟩
   ·exact ⟨6,114,by simp,rfl⟩
  refine (escShort_c n k x hk w).mono ?_
  rintro e w' ⟨rfl,rfl⟩
  exact ⟨by rw [hx],Below.refl _ _⟩
 ·rw [quote_coded h1 h8 h9 h10 h12 h13]
  exact escCoded_c n (fun _ => ix_none h1 h8 h9 h10 h12 h13) (by omega) w ht
end Go.Proofs.YtkigpbkkhgabeaaGreatDoor
