import Derived.Test.YtkigpbkkhgabeaaGreatDoorYWho
import Derived.Defers
import Derived.Recover
set_option linter.unusedVariables false
set_option linter.unusedSimpArgs false
namespace Go.Proofs.YtkigpbkkhgabeaaGreatDoor
open Go.RowKit Go.Lib
attribute [local go_sem] Oper.semAt_some
theorem octs_u8 (t : ByteArray) : (octs t).map Nat.toUInt8 = t.data.toList:=by
 unfold octs
 rw [List.map_map]
 conv => rhs; rw [← List.map_id t.data.toList]
 exact List.map_congr_left fun a _ => by simp
set_option maxRecDepth 100000 in
set_option maxHeartbeats 8000000 in
theorem value1_c {F : Value} {qc : Int → List UInt8} (hM : Md F qc) {B pb : Nat} {bs : List UInt8} {room st o : Nat} {S : Nat → Prop} {x : VT} {cs : List Value} (w : World) (hP : Pg B pb bs room st o F w) (hG : Gl B w) (hB : B ≤ w.heap.size)
  (hx : VIn w S x cs) (hS : ∀ b,S b → b < B) (h0 : alone x = 0) (hst : st ≤ 8) (ho : o ≤ 900) (hcap : bs.length + room ≤ 140737488355328)
  (hitem : x.kind = 5 ∨ x.kind = 6 → ∀ y ∈ x.list,∀ (bs' : List UInt8) (room' : Nat) (w' : World) (ds : List Value),Pg B pb bs' room' st (o + 1) F w' → Gl B w' → B ≤ w'.heap.size → VIn w' S y ds → bs'.length + room' ≤ 140737488355328 →
   Calls Tryz.prog 26 #[pgP pb,.agg ds.toArray] w' (Wr B pb bs' room' st (o + 1) F w' (prV qc numP st (o + 1) y))) :
  Calls Tryz.prog 26 #[pgP pb,.agg cs.toArray] w (Wr B pb bs room st o F w (prV qc numP st o x)):=by
 have hf:=alone_fields h0
 have hz:=alone_zero h0
 have HX:=Lib.hid hx
 have HITEM:=Lib.hid hitem
 have HCAP:=Lib.hid hcap
 clear hitem
 obtain ⟨k,neg,xs,e,t,li,ks,hxk⟩ : ∃ k neg xs e t li ks,x = VT.mk k neg xs e t li ks:=by cases x; exact ⟨_,_,_,_,_,_,_,rfl⟩
 rw [hxk] at hx hf hz
 obtain ⟨A,n,c,LA,ln,lc,KA,kn,kc,rfl,hrd,hn,-,-,-,-,-⟩:=hx.parts
 simp only [VT.kind,VT.list,VT.num,VT.neg,VT.exp,VT.text,VT.keys] at hf hz
 obtain ⟨-,-,f3,-,f4,-,f6,fk,fl,-,-⟩:=hf
 obtain ⟨⟨z1,z2⟩,-⟩:=hz
 obtain ⟨bp,hbp⟩ : ∃ b,w.heap.size = b:=⟨_,rfl⟩
 have hb : But (fun _ => False) w (w.alloc (.cells #[.int .i64 k,.bool neg,.slice A n c,.int .i64 e,.string t,.slice LA ln lc,.slice KA kn kc] 28)):=(But.refl _ w).alloc _
 have hm:=World.alloc_heap_new w (.cells #[.int .i64 k,.bool neg,.slice A n c,.int .i64 e,.string t,.slice LA ln lc,.slice KA kn kc] 28)
 rw [hbp] at hm
 have hP1:=hP.stay0 hb
 have hG1:=hG.low ((Soft.of0 (B:=B) (pb:=pb) hb).below hB hP.base)
 have hx1:=HX.out.keep (w':=w.alloc (.cells #[.int .i64 k,.bool neg,.slice A n c,.int .i64 e,.string t,.slice LA ln lc,.slice KA kn kc] 28)) fun p hp => (Soft.of0 hb).low hP.base hB (hS _ hp)
 have hrd1 : Rd (w.alloc (.cells #[.int .i64 k,.bool neg,.slice A n c,.int .i64 e,.string t,.slice LA ln lc,.slice KA kn kc] 28)) S A n xs:=hrd.keep fun p hp => (Soft.of0 hb).low hP.base hB (hS _ hp)
 have hB1 : B ≤ (w.alloc (.cells #[.int .i64 k,.bool neg,.slice A n c,.int .i64 e,.string t,.slice LA ln lc,.slice KA kn kc] 28)).heap.size:=by have:=hb.size; omega
 have hS1 : ∀ b,S b → b < (w.alloc (.cells #[.int .i64 k,.bool neg,.slice A n c,.int .i64 e,.string t,.slice LA ln lc,.slice KA kn kc] 28)).heap.size:=fun b h => Nat.lt_of_lt_of_le (hS b h) hB1
 have hpl:=hP.lt
 have HX1:=Lib.hid hx1
 have HP1:=Lib.hid hP1
 have HG1:=Lib.hid hG1
 have HB:=Lib.hid hb
 have HRD:=Lib.hid hrd1
 have HF3:=Lib.hid f3
 have HF4:=Lib.hid f4
 have HF6:=Lib.hid f6
 have HFK:=Lib.hid fk
 have HXK:=Lib.hid hxk
 clear hx1 hP1 hG1 hb hrd hrd1 f3 f4 f6 fk hP hG HX hx hxk
 have hk7 : k = 0 ∨ k = 1 ∨ k = 2 ∨ k = 3 ∨ k = 4 ∨ k = 5 ∨ k = 6:=by omega
 obtain ⟨y0,y1,y2,y3,y4,y5,y6⟩:=box7_of hm
 obtain ⟨V,hV⟩ : ∃ V,prV qc numP st o x = V:=⟨_,rfl⟩
 rw [hV]
 have HV:=Lib.hid hV
 clear hV hm z1 z2
 go_enter Tryz.func26,Tryz.ntmps26
 rcases hk7 with rfl | rfl | rfl | rfl | rfl | rfl | rfl
 ·have hpv : prV qc numP st o x = [110,117,108,108]:=by rw [HXK.out]; unfold prV; rfl
  have HPV:=Lib.hid hpv
  clear hpv
  go_wp2_with fail
  generalize (w.alloc (.cells #[.int .i64 0,.bool neg,.slice A n c,.int .i64 e,.string t,.slice LA ln lc,.slice KA kn kc] 28)) = w1 at *
  refine (putL_c w1 HP1.out ⟨#[110,117,108,108]⟩ [110,117,108,108] rfl (by simp only [List.length_cons,List.length_nil]; omega) hB1).mono ?_
  rintro e9 w9 (⟨hr9,rfl,hP9,hS9⟩ | ⟨hr9,rfl,hS9⟩)
  case inr => exact ⟨rfl,by rw [← HV.out,HPV.out]; exact Wr.no hr9 ((Soft.of0 HB.out).trans hS9)⟩
  have HP9:=Lib.hid hP9
  have HS9:=Lib.hid ((Soft.of0 HB.out).trans hS9)
  clear hP9 hS9
  go_wp2_with fail
  first | go_end0 | refine bodyPost_ret (results_none rfl _ _ _) rfl ?_
  rw [← HV.out,HPV.out]
  exact Wr.done hr9 HP9.out HS9.out
 ·have hpv : prV qc numP st o x = [102,97,108,115,101]:=by rw [HXK.out]; unfold prV; rfl
  have HPV:=Lib.hid hpv
  clear hpv
  go_wp2_with fail
  generalize (w.alloc (.cells #[.int .i64 1,.bool neg,.slice A n c,.int .i64 e,.string t,.slice LA ln lc,.slice KA kn kc] 28)) = w1 at *
  refine (putL_c w1 HP1.out ⟨#[102,97,108,115,101]⟩ [102,97,108,115,101] rfl (by simp only [List.length_cons,List.length_nil]; omega) hB1).mono ?_
  rintro e9 w9 (⟨hr9,rfl,hP9,hS9⟩ | ⟨hr9,rfl,hS9⟩)
  case inr => exact ⟨rfl,by rw [← HV.out,HPV.out]; exact Wr.no hr9 ((Soft.of0 HB.out).trans hS9)⟩
  have HP9:=Lib.hid hP9
  have HS9:=Lib.hid ((Soft.of0 HB.out).trans hS9)
  clear hP9 hS9
  go_wp2_with fail
  first | go_end0 | refine bodyPost_ret (results_none rfl _ _ _) rfl ?_
  rw [← HV.out,HPV.out]
  exact Wr.done hr9 HP9.out HS9.out
 ·have hpv : prV qc numP st o x = [116,114,117,101]:=by rw [HXK.out]; unfold prV; rfl
  have HPV:=Lib.hid hpv
  clear hpv
  go_wp2_with fail
  generalize (w.alloc (.cells #[.int .i64 2,.bool neg,.slice A n c,.int .i64 e,.string t,.slice LA ln lc,.slice KA kn kc] 28)) = w1 at *
  refine (putL_c w1 HP1.out ⟨#[116,114,117,101]⟩ [116,114,117,101] rfl (by simp only [List.length_cons,List.length_nil]; omega) hB1).mono ?_
  rintro e9 w9 (⟨hr9,rfl,hP9,hS9⟩ | ⟨hr9,rfl,hS9⟩)
  case inr => exact ⟨rfl,by rw [← HV.out,HPV.out]; exact Wr.no hr9 ((Soft.of0 HB.out).trans hS9)⟩
  have HP9:=Lib.hid hP9
  have HS9:=Lib.hid ((Soft.of0 HB.out).trans hS9)
  clear hP9 hS9
  go_wp2_with fail
  first | go_end0 | refine bodyPost_ret (results_none rfl _ _ _) rfl ?_
  rw [← HV.out,HPV.out]
  exact Wr.done hr9 HP9.out HS9.out
 ·have hpv : prV qc numP st o x = numP neg xs e:=by rw [HXK.out]; unfold prV; rfl
  have HPV:=Lib.hid hpv
  clear hpv
  go_wp2_with fail
  generalize (w.alloc (.cells #[.int .i64 3,.bool neg,.slice A n c,.int .i64 e,.string t,.slice LA ln lc,.slice KA kn kc] 28)) = w1 at *
  refine (DPrint_c neg e w1 HG1.out.ten HRD.out hS1 (by omega)).mono ?_
  rintro e9 w2 ⟨tx,rfl,htx,hts,hb2⟩
  have hpt : pT neg xs e = prt neg (val xs) e:=by unfold pT; rw [if_pos (HF3.out (by trivial))]
  have htl : tx.data.toList = numP neg xs e:=by rw [← octs_u8,htx,hpt]; rfl
  have hS2:=Soft.ofB (B:=B) (pb:=pb) hb2
  have HP2:=Lib.hid (HP1.out.stay0 (But.of hb2))
  have HTL:=Lib.hid htl
  have HS2:=Lib.hid ((Soft.of0 HB.out).trans hS2)
  have hB2 : B ≤ w2.heap.size:=by have:=hS2.size; omega
  clear hpt htl hS2 hb2 htx
  go_wp2_with fail
  refine (putL_c w2 HP2.out tx (numP neg xs e) HTL.out (by omega) hB2).mono ?_
  rintro e9 w9 (⟨hr9,rfl,hP9,hS9⟩ | ⟨hr9,rfl,hS9⟩)
  case inr => exact ⟨rfl,by rw [← HV.out,HPV.out]; exact Wr.no hr9 (HS2.out.trans hS9)⟩
  have HP9:=Lib.hid hP9
  have HS9:=Lib.hid (HS2.out.trans hS9)
  clear hP9 hS9
  go_wp2_with fail
  first | go_end0 | refine bodyPost_ret (results_none rfl _ _ _) rfl ?_
  rw [← HV.out,HPV.out]
  exact Wr.done hr9 HP9.out HS9.out
 ·have hpv : prV qc numP st o x = txtL qc t:=by rw [HXK.out]; unfold prV; rfl
  have HPV:=Lib.hid hpv
  clear hpv
  go_wp2_with fail
  generalize (w.alloc (.cells #[.int .i64 4,.bool neg,.slice A n c,.int .i64 e,.string t,.slice LA ln lc,.slice KA kn kc] 28)) = w1 at *
  refine (ptext_c hM w1 HP1.out HG1.out hB1 t (HF4.out (by trivial)).1 (by have:=(HF4.out (by trivial)).2; omega) (.inr hcap)).mono ?_
  rintro e9 w9 (⟨hr9,rfl,hP9,hS9⟩ | ⟨hr9,rfl,hS9⟩)
  case inr => exact ⟨rfl,by rw [← HV.out,HPV.out]; exact Wr.no hr9 ((Soft.of0 HB.out).trans hS9)⟩
  have HP9:=Lib.hid hP9
  have HS9:=Lib.hid ((Soft.of0 HB.out).trans hS9)
  clear hP9 hS9
  go_wp2_with fail
  first | go_end0 | refine bodyPost_ret (results_none rfl _ _ _) rfl ?_
  rw [← HV.out,HPV.out]
  exact Wr.done hr9 HP9.out HS9.out
 ·have hpv : prV qc numP st o x = holdL qc numP st o 91 93 x:=prV_list (by rw [HXK.out]; rfl)
  have HPV:=Lib.hid hpv
  clear hpv
  go_wp2_with fail
  generalize (w.alloc (.cells #[.int .i64 5,.bool neg,.slice A n c,.int .i64 e,.string t,.slice LA ln lc,.slice KA kn kc] 28)) = w1 at *
  refine (holder_c hM 91 93 w1 HP1.out HG1.out hB1 HX1.out hS (.inl (by rw [HXK.out]; rfl)) (fun h => by rw [HXK.out] at h; exact absurd h (by simp [VT.kind])) (by rw [HXK.out]; exact HFK.out) (by rw [HXK.out]; exact fl) hst ho hcap (HITEM.out (.inl (by rw [HXK.out]; rfl)))).mono ?_
  rintro e9 w9 (⟨hr9,rfl,hP9,hS9⟩ | ⟨hr9,rfl,hS9⟩)
  case inr => exact ⟨rfl,by rw [← HV.out,HPV.out]; exact Wr.no hr9 ((Soft.of0 HB.out).trans hS9)⟩
  have HP9:=Lib.hid hP9
  have HS9:=Lib.hid ((Soft.of0 HB.out).trans hS9)
  clear hP9 hS9
  go_wp2_with fail
  first | go_end0 | refine bodyPost_ret (results_none rfl _ _ _) rfl ?_
  rw [← HV.out,HPV.out]
  exact Wr.done hr9 HP9.out HS9.out
 ·have hpv : prV qc numP st o x = holdL qc numP st o 123 125 x:=prV_object (by rw [HXK.out]; rfl) (by rw [HXK.out]; exact (HF6.out (by trivial)).1)
  have HPV:=Lib.hid hpv
  clear hpv
  go_wp2_with fail
  generalize (w.alloc (.cells #[.int .i64 6,.bool neg,.slice A n c,.int .i64 e,.string t,.slice LA ln lc,.slice KA kn kc] 28)) = w1 at *
  refine (holder_c hM 123 125 w1 HP1.out HG1.out hB1 HX1.out hS (.inr (by rw [HXK.out]; rfl)) (fun _ => by rw [HXK.out]; exact (HF6.out (by trivial)).1) (by rw [HXK.out]; exact HFK.out) (by rw [HXK.out]; exact fl) hst ho hcap (HITEM.out (.inr (by rw [HXK.out]; rfl)))).mono ?_
  rintro e9 w9 (⟨hr9,rfl,hP9,hS9⟩ | ⟨hr9,rfl,hS9⟩)
  case inr => exact ⟨rfl,by rw [← HV.out,HPV.out]; exact Wr.no hr9 ((Soft.of0 HB.out).trans hS9)⟩
  have HP9:=Lib.hid hP9
  have HS9:=Lib.hid ((Soft.of0 HB.out).trans hS9)
  clear hP9 hS9
  go_wp2_with fail
  first | go_end0 | refine bodyPost_ret (results_none rfl _ _ _) rfl ?_
  rw [← HV.out,HPV.out]
  exact Wr.done hr9 HP9.out HS9.out
theorem pvalue_c {F : Value} {qc : Int → List UInt8} (hM : Md F qc) {B pb st : Nat} {S : Nat → Prop} (hS : ∀ b,S b → b < B) (hst : st ≤ 8) : ∀ (k n : Nat) (x : VT) (cs : List Value) (bs : List UInt8) (room o : Nat) (w : World),k < n → dpt n x ≤ k → Gp x → o + k ≤ 900 →
  Pg B pb bs room st o F w → Gl B w → B ≤ w.heap.size → VIn w S x cs → bs.length + room ≤ 140737488355328 → Calls Tryz.prog 26 #[pgP pb,.agg cs.toArray] w (Wr B pb bs room st o F w (prV qc numP st o x)):=by
 intro k
 induction k with
 | zero =>
  intro n x cs bs room o w hkn hd hx ho hP hG hB hv hcap
  refine value1_c hM w hP hG hB hv hS hx.own.1 hst (by omega) hcap fun h => ?_
  exfalso
  obtain ⟨m,rfl⟩ : ∃ m,n = m + 1:=⟨n - 1,by omega⟩
  unfold dpt at hd
  have hho : hold x.kind = true:=by unfold hold; rcases h with h | h <;> rw [h] <;> rfl
  rw [if_pos hho] at hd
  omega
 | succ k ih =>
  intro n x cs bs room o w hkn hd hx ho hP hG hB hv hcap
  refine value1_c hM w hP hG hB hv hS hx.own.1 hst (by omega) hcap fun h y hy bs' room' w' ds hP' hG' hB' hv' hcap' => ?_
  obtain ⟨m,rfl⟩ : ∃ m,n = m + 1:=⟨n - 1,by omega⟩
  have hho : hold x.kind = true:=by unfold hold; rcases h with h | h <;> rw [h] <;> rfl
  have hdz : dpt m y ≤ k:=by
   unfold dpt at hd
   rw [if_pos hho] at hd
   have h1 : dpt m y ≤ mxL (x.list.map (dpt m)):=by
    have key : ∀ l : List Nat,∀ a ∈ l,a ≤ mxL l:=fun l => by
     induction l with
     | nil => intro a h; exact absurd h (by simp)
     | cons b r ihh =>
      intro a h
      simp only [mxL]
      rcases List.mem_cons.1 h with rfl | h
      ·omega
      ·have:=ihh a h; omega
    exact key _ _ (List.mem_map.2 ⟨y,hy,rfl⟩)
   omega
  have hin:=(alone_fields hx.own.1).1
  exact ih m y ds bs' room' (o + 1) w' (by omega) hdz (hx.sub (hin ▸ hy)) (by omega) hP' hG' hB' hv' hcap'
end Go.Proofs.YtkigpbkkhgabeaaGreatDoor
namespace Go.Proofs.YtkigpbkkhgabeaaGreatDoor
open Go.RowKit Go.Lib
theorem Soft.freeze {B pb g : Nat} {w : World} {cur : Array Value} {fr : Nat × Nat} (hg : w.heap[g]? = some (.cells cur 5 fr)) (hb : B ≤ g) (n : Nat) : Soft B pb w (w.freeze ⟨g,0,none⟩ n):=by
 unfold World.freeze
 split
 ·exact Soft.refl _ _ _
 ·refine ⟨rfl,rfl,rfl,by simp,fun k hk hp hc => ?_⟩
  show (w.heap.modify g _)[k]? = _
  rw [Array.getElem?_modify,if_neg]
  rintro rfl
  rcases hc with hc | hc
  ·omega
  ·exact hc _ _ hg
set_option maxHeartbeats 1000000 in
set_option maxRecDepth 100000 in
theorem string_c {B pb : Nat} {bs : List UInt8} {room st o : Nat} {F : Value} (w : World) (hP : Pg B pb bs room st o F w) (h0 : bs ≠ []) :
  Calls Tryz.prog 39 #[pgP pb] w fun e w' => e = .returned (.string ⟨bs.toArray⟩) ∧ Soft B pb w w':=by
 obtain ⟨p,v,hp,hx,hown⟩:=hP.box
 have hl0 : bs.length ≠ 0:=by simpa using h0
 obtain ⟨g,cap,cur,rfl,hbg,hg,hnc,hcm,hcs,htake⟩ : ∃ g cap cur,v = .slice (some ⟨g,0,none⟩) bs.length cap ∧ B ≤ g ∧ w.heap[g]? = some (.cells cur 5 (0,0)) ∧ bs.length ≤ cap ∧ cap ≤ maxLen ∧ cur.size = cap * 1 ∧ cur.toList.take (bs.length * 1) = Lib.byteCells bs:=by
  rcases hown.2 with ⟨_,hz⟩ | ⟨g,cap,cur,hv,r⟩
  ·exact absurd hz hl0
  ·exact ⟨g,cap,cur,hv,r⟩
 have c1 : w.drew.cell? ⟨pb,1,none⟩ = some (.slice (some ⟨g,0,none⟩) bs.length cap):=cell_at3 (w:=w.drew) (i:=1) (show w.drew.heap[pb]? = _ from hx) rfl
 have hSD : (Builtin.unsafeSliceData_ #[38] 99 #[.slice (some ⟨g,0,none⟩) bs.length cap]).run Tryz.prog w.drew = .ok (.pointer (some ⟨g,0,none⟩)) w.drew :=
  Lib.run_unsafeSliceData_row _ _ _ _ _ _ (by omega)
 have hUS : (Builtin.unsafeString_ #[99,3] 9 #[.pointer (some ⟨g,0,none⟩),.int .i64 bs.length]).run Tryz.prog w.drew = .ok (.string ⟨bs.toArray⟩) (w.drew.freeze ⟨g,0,none⟩ bs.length):=by
  refine Lib.run_unsafeString_row w.drew 99 3 9 5 (by kernel_rfl) (by kernel_rfl) g cur.size (by have hg' : w.drew.heap[g]? = some (.cells cur 5 (0,0)):=hg; simp [World.shape?,hg']) bs h0 (by omega) (by unfold maxLen at hcm; omega) ?_
  intro j x hx
  have:=hown.cells (g:=g) rfl j (.int .u8 x.toNat) (by simp [Lib.byteCells,hx])
  exact this
 have hS : Soft B pb w (w.drew.freeze ⟨g,0,none⟩ bs.length):=(Soft.refl B pb w).drw.trans (Soft.freeze (w:=w.drew) (cur:=cur) (fr:=(0,0)) hg hbg _)
 have HS:=Lib.hid hS
 have mixed : Tryz.prog.follows .mixedOrders = true:=by kernel_rfl
 clear hS hown htake hcs hcm hg hx hp
 go_enter Tryz.func39,Tryz.ntmps39
 go_wp2
 go_region_o
 all_goals (go_wp2; first | go_end0 | refine bodyPost_ret (results_none rfl _ _ _) rfl ?_ | go_ret2 | go_ret; try exact ⟨rfl,HS.out⟩)
end Go.Proofs.YtkigpbkkhgabeaaGreatDoor
namespace Go.Proofs.YtkigpbkkhgabeaaGreatDoor
open Go.RowKit Go.Lib
@[go_sem] theorem wassert_fault (v : Value) (w : World) : (Instr.typeAssert (.iface 83 v) 20 83 true).run Tryz.prog w = .ok (.tuple #[v,.bool true]) w:=by kernel_rfl
@[go_sem] theorem wassert_nil (w : World) : (Instr.typeAssert .nilIface 20 83 true).run Tryz.prog w = .ok (.tuple #[.agg #[.int .i64 0],.bool false]) w:=by kernel_rfl
set_option maxRecDepth 100000 in
set_option maxHeartbeats 2000000 in
theorem wcatch_fault (b1 b2 : Nat) (x : Int) (s0 : Value) (n0 : Value) (older : List PanicEntry) (w : World) (h0 : w.heap[b1]? = some (.cells #[s0] 9)) (h1 : w.heap[b2]? = some (.cells #[n0] 30)) (hne : b1 ≠ b2) :
  CallsD Tryz.prog 46 #[.pointer (some ⟨b1,0,none⟩),.pointer (some ⟨b2,0,none⟩)] (.panicking ({ v:=.iface 83 (.agg #[.int .i64 x]),recovered:=false } :: older)) w fun e u' w' =>
   e = .returned (.tuple #[]) ∧ u' = .panicking ({ v:=.iface 83 (.agg #[.int .i64 x]),recovered:=true } :: older) ∧
    w'.heap[b1]? = some (.cells #[.string ⟨#[]⟩] 9) ∧ w'.heap[b2]? = some (.cells #[.int .i64 x] 30) ∧ But (fun k => k = b1 ∨ k = b2) w w':=by
 have mixed : Tryz.prog.follows .mixedOrders = true:=by kernel_rfl
 obtain ⟨fb,hfb⟩ : ∃ b,w.heap.size = b:=⟨_,rfl⟩
 have hl1:=(Array.getElem?_eq_some_iff.1 h0).1
 have hl2:=(Array.getElem?_eq_some_iff.1 h1).1
 have hb:=(But.refl (fun k => k = b1 ∨ k = b2) w).alloc (.cells #[.int .i64 x] 83)
 have k0:=(Below.heap_alloc w (.cells #[.int .i64 x] 83) b1 hl1).trans h0
 have k1:=(Below.heap_alloc w (.cells #[.int .i64 x] 83) b2 hl2).trans h1
 have kf:=World.alloc_heap_new w (.cells #[.int .i64 x] 83)
 rw [hfb] at kf hl1 hl2
 refine callsD_of_wpS Tryz.func46 rfl fun c₀ cs hu => ?_
 apply wpS_seq
 apply wpS_region
 simp [wpOpsS,go_sem,recoverD,hu,Tryz.ntmps46,Exit.thenS]
 refine wpS_of_wp ?_
 obtain ⟨F,hF⟩ : ∃ F,F = Value.iface 83 (.agg #[.int .i64 x]):=⟨_,rfl⟩
 have ht : (#[Value.pointer (some ⟨b1,0,none⟩),Value.pointer (some ⟨b2,0,none⟩)] ++ (((Array.replicate 14 undef).setIfInBounds 3 F).setIfInBounds 0 F)) = #[.pointer (some ⟨b1,0,none⟩),.pointer (some ⟨b2,0,none⟩),F,undef,undef,F,undef,undef,undef,undef,undef,undef,undef,undef,undef,undef]:=rfl
 rw [hF] at ht
 rw [ht]
 clear ht hF
 try rw [hfb]
 go_wp2
 have hb9:=hb
 generalize (w.alloc (.cells #[.int .i64 x] 83)) = W at *
 obtain ⟨V,hV⟩ : ∃ V,W = V:=⟨_,rfl⟩
 have j0 : V.heap[b1]? = some (.cells #[s0] 9):=by rw [← hV]; exact k0
 have j1 : V.heap[b2]? = some (.cells #[n0] 30):=by rw [← hV]; exact k1
 have jf : V.heap[fb]? = some (.cells #[.int .i64 x] 83):=by rw [← hV]; exact kf
 have hbV : But (fun k => k = b1 ∨ k = b2) w V:=by rw [← hV]; exact ⟨hb9.os,hb9.tape,hb9.output,hb9.size,hb9.block⟩
 have m0 : (V.setCell ⟨b1,0,none⟩ (.string ⟨#[]⟩)).heap[b2]? = some (.cells #[n0] 30):=by rw [Below.heap_setCell _ _ _ _ (by show b2 ≠ b1; omega)]; exact j1
 have mf : (V.setCell ⟨b1,0,none⟩ (.string ⟨#[]⟩)).heap[fb]? = some (.cells #[.int .i64 x] 83):=by rw [Below.heap_setCell _ _ _ _ (by show fb ≠ b1; omega)]; exact jf
 have c0:=cell_at3 (i:=0) j0 rfl
 have c1:=cell_at3 (i:=0) j1 rfl
 have cf:=cell_at3 (i:=0) jf rfl
 have d1:=cell_at3 (i:=0) m0 rfl
 have df:=cell_at3 (i:=0) mf rfl
 have z0 : V.frozen? ⟨b1,0,none⟩ = false:=by simp [World.frozen?,j0]
 have z1 : V.frozen? ⟨b2,0,none⟩ = false:=by simp [World.frozen?,j1]
 have z2 : (V.setCell ⟨b1,0,none⟩ (.string ⟨#[]⟩)).frozen? ⟨b2,0,none⟩ = false:=by simp [World.frozen?,m0]
 have hfin1 : ((V.setCell ⟨b1,0,none⟩ (.string ⟨#[]⟩)).setCell ⟨b2,0,none⟩ (.int .i64 x)).heap[b1]? = some (.cells #[.string ⟨#[]⟩] 9):=by
  rw [Below.heap_setCell _ _ _ _ (by show b1 ≠ b2; omega)]
  simpa using set_page (w:=V) (pb:=b1) (i:=0) (.string ⟨#[]⟩) j0
 have hfin2 : ((V.setCell ⟨b1,0,none⟩ (.string ⟨#[]⟩)).setCell ⟨b2,0,none⟩ (.int .i64 x)).heap[b2]? = some (.cells #[.int .i64 x] 30):=by
  simpa using set_page (w:=V.setCell ⟨b1,0,none⟩ (.string ⟨#[]⟩)) (pb:=b2) (i:=0) (.int .i64 x) m0
 have hfin3 : But (fun k => k = b1 ∨ k = b2) w ((V.setCell ⟨b1,0,none⟩ (.string ⟨#[]⟩)).setCell ⟨b2,0,none⟩ (.int .i64 x)) :=
  But.setCell (p:=⟨b2,0,none⟩) (But.setCell (p:=⟨b1,0,none⟩) hbV (.inl (.inl rfl)) _) (.inl (.inr rfl)) _
 have H1:=Lib.hid hfin1
 have H2:=Lib.hid hfin2
 have H3:=Lib.hid hfin3
 clear hfin1 hfin2 hfin3 hbV hb9 hb k0 k1 kf j0 j1 jf m0 mf h0 h1
 subst hV
 go_region_o
 all_goals go_wp2
 all_goals
  have r1 : ((W.setCell ⟨b1,0,none⟩ (.string ⟨#[]⟩)).setCell ⟨b2,0,none⟩ (.int .i64 x)).drew.heap[b1]? = some (.cells #[.string ⟨#[]⟩] 9):=H1.out
  have r2 : ((W.setCell ⟨b1,0,none⟩ (.string ⟨#[]⟩)).setCell ⟨b2,0,none⟩ (.int .i64 x)).drew.heap[b2]? = some (.cells #[.int .i64 x] 30):=H2.out
  have r3 : But (fun k => k = b1 ∨ k = b2) w ((W.setCell ⟨b1,0,none⟩ (.string ⟨#[]⟩)).setCell ⟨b2,0,none⟩ (.int .i64 x)).drew:=⟨H3.out.os,H3.out.tape,H3.out.output,H3.out.size,H3.out.block⟩
  generalize ((W.setCell ⟨b1,0,none⟩ (.string ⟨#[]⟩)).setCell ⟨b2,0,none⟩ (.int .i64 x)).drew = Y at *
  refine ⟨rfl,_,rfl,_,results_none rfl _ _ _,rfl,rfl,r1,r2,r3⟩
set_option maxRecDepth 100000 in
set_option maxHeartbeats 1000000 in
theorem wcatch_idle (b1 b2 : Nat) (w : World) :
  CallsD Tryz.prog 46 #[.pointer (some ⟨b1,0,none⟩),.pointer (some ⟨b2,0,none⟩)] .returning w fun e u' w' => e = .returned (.tuple #[]) ∧ u' = .returning ∧ w' = w.alloc (.cells #[.int .i64 0] 83):=by
 refine callsD_of_wpS Tryz.func46 rfl fun c₀ cs hu => ?_
 apply wpS_seq
 apply wpS_region
 simp [wpOpsS,go_sem,recoverD,hu,Tryz.ntmps46,Exit.thenS]
 refine wpS_of_wp ?_
 have ht : (#[Value.pointer (some ⟨b1,0,none⟩),Value.pointer (some ⟨b2,0,none⟩)] ++ (((Array.replicate 14 undef).setIfInBounds 3 Value.nilIface).setIfInBounds 0 Value.nilIface)) = #[.pointer (some ⟨b1,0,none⟩),.pointer (some ⟨b2,0,none⟩),.nilIface,undef,undef,.nilIface,undef,undef,undef,undef,undef,undef,undef,undef,undef,undef]:=rfl
 rw [ht]
 go_wp2
 cases c₀
 simp_all [bodyPostS,results,Tryz.results46]
def WrE (out : List UInt8) (room : Nat) (e : Ending) : Prop :=
 (out.length ≤ room ∧ e = .returned (.tuple #[.string ⟨out.toArray⟩,.int .i64 0])) ∨ (room < out.length ∧ e = .returned (.tuple #[.string ⟨#[]⟩,.int .i64 5]))
set_option maxRecDepth 100000 in
set_option maxHeartbeats 4000000 in
theorem written_c {F : Value} {room st : Nat} {out : List UInt8} {fn : Nat} {cp : Value} (w : World) (hroom : room ≤ 9223372036854775807) (h0 : out ≠ []) (hcf : ∀ (ar : Array Value) (W : World),(callFunc fn ar).run Tryz.prog W = .ok (.enter fn ar) W)
  (hwr : ∀ w',Pg w.heap.size w.heap.size [] room st 0 F w' → But (fun _ => False) w w' → Calls Tryz.prog fn #[pgP w.heap.size,cp] w' (Wr w.heap.size w.heap.size [] room st 0 F w' out)) :
  Calls Tryz.prog 23 #[.agg #[.pointer none,.slice none 0 0,.int .i64 (room : Int),.int .i64 (st : Int),.int .i64 0,F],.func (.func fn) #[] #[cp]] w fun e w' => WrE out room e ∧ Below w.heap.size w w':=by
 have hmf : ∀ (fn : Fn) (first cap : Array Value) (w : World),(Instr.makeFunc fn first cap).run Tryz.prog w = .ok (.func fn first cap) w:=fun _ _ _ _ => rfl
 obtain ⟨pb,hpb⟩ : ∃ b,w.heap.size = b:=⟨_,rfl⟩
 rw [hpb] at hwr ⊢
 obtain ⟨w3,hw3⟩ : ∃ w3,((w.alloc (.cells #[.pointer none,.slice none 0 0,.int .i64 (room : Int),.int .i64 (st : Int),.int .i64 0,F] 61)).alloc (.cells #[.string ⟨#[]⟩] 9)).alloc (.cells #[.int .i64 0] 30) = w3:=⟨_,rfl⟩
 have hb3 : But (fun _ => False) w w3:=by rw [← hw3]; exact (((But.refl _ w).alloc _).alloc _).alloc _
 have hp3 : w3.heap[pb]? = some (pgO (.pointer none) (.slice none 0 0) room st 0 F):=by
  rw [← hw3,Below.heap_alloc _ _ _ (by simp; omega),Below.heap_alloc _ _ _ (by simp; omega),← hpb]; exact World.alloc_heap_new _ _
 have h13 : w3.heap[pb + 1]? = some (.cells #[.string ⟨#[]⟩] 9):=by
  rw [← hw3,Below.heap_alloc _ _ _ (by simp; omega)]
  have:=World.alloc_heap_new (w.alloc (.cells #[.pointer none,.slice none 0 0,.int .i64 (room : Int),.int .i64 (st : Int),.int .i64 0,F] 61)) (.cells #[.string ⟨#[]⟩] 9)
  rwa [World.size_alloc,hpb] at this
 have h23 : w3.heap[pb + 1 + 1]? = some (.cells #[.int .i64 0] 30):=by
  rw [← hw3]
  have:=World.alloc_heap_new ((w.alloc (.cells #[.pointer none,.slice none 0 0,.int .i64 (room : Int),.int .i64 (st : Int),.int .i64 0,F] 61)).alloc (.cells #[.string ⟨#[]⟩] 9)) (.cells #[.int .i64 0] 30)
  rwa [World.size_alloc,World.size_alloc,hpb] at this
 have hs3 : w3.heap.size = pb + 3:=by rw [← hw3]; simp; omega
 have hP3 : Pg pb pb [] room st 0 F w3:=⟨Nat.le_refl _,⟨_,_,.inl rfl,hp3,⟨rfl,.inl ⟨rfl,rfl⟩⟩⟩,hroom⟩
 have hc:=hwr w3 hP3 hb3
 have HC:=Lib.hid hc
 have HB3:=Lib.hid hb3
 have HP3:=Lib.hid hP3
 have H13:=Lib.hid h13
 have H23:=Lib.hid h23
 have HPB:=Lib.hid hpb
 have HW3:=Lib.hid hw3
 clear hc hwr hb3 hp3 hP3 h13 h23 hw3
 go_enter_defers Tryz.func23,Tryz.ntmps23
 go_wp2_with fail
 rw [HW3.out]
 refine HC.out.mono ?_
 rintro e9 w4 (⟨hr4,rfl,hP4,hS4⟩ | ⟨hr4,rfl,hS4⟩)
 case inr =>
  have k1:=hS4.keep H13.out (by omega) (by decide)
  have k2:=hS4.keep H23.out (by omega) (by decide)
  have HS:=Lib.hid hS4
  clear hS4
  go_wp2_with fail
  refine leaves_cons (f:=46) (args:=#[.pointer (some ⟨pb + 1,0,none⟩),.pointer (some ⟨pb + 1 + 1,0,none⟩)]) (by simp) (by simp [go_sem]) ?_
  refine (wcatch_fault (pb + 1) (pb + 1 + 1) 5 _ _ [] w4 k1 k2 (by omega)).mono ?_
  rintro e u' w'' ⟨rfl,rfl,j1,j2,hb⟩
  have y0:=cell_at3 (i:=0) j1 rfl
  have y1:=cell_at3 (i:=0) j2 rfl
  simp [Leaves,settle,results,Tryz.results23,go_sem,y0,y1]
  refine ⟨.inr ⟨hr4,rfl⟩,?_⟩
  have hlow:=HS.out.below (by omega) (Nat.le_refl pb)
  exact ⟨hb.os.trans (hlow.os.trans HB3.out.os),hb.tape.trans (hlow.tape.trans HB3.out.tape),hb.output.trans (hlow.output.trans HB3.out.output),Nat.le_trans HB3.out.size (Nat.le_trans hlow.size hb.size),fun q hq => (hb.block q (by have:=hlow.size; omega) (by omega)).trans ((hlow.block q hq).trans (HB3.out.block q (by omega) (fun h => h)))⟩
 have k1:=hS4.keep H13.out (by omega) (by decide)
 have k2:=hS4.keep H23.out (by omega) (by decide)
 have hst:=string_c w4 hP4 (by simpa using h0)
 have HS:=Lib.hid hS4
 have HST:=Lib.hid hst
 have K1:=Lib.hid k1
 have K2:=Lib.hid k2
 clear hS4 hst hP4 k1 k2
 go_wp2_with fail
 refine HST.out.mono ?_
 rintro e9 w5 ⟨rfl,hS5⟩
 have k1:=hS5.keep K1.out (by omega) (by decide)
 have k2:=hS5.keep K2.out (by omega) (by decide)
 have x1:=cell_at3 (i:=0) k1 rfl
 have x2:=cell_at3 (i:=0) k2 rfl
 have z1 : w5.frozen? ⟨pb + 1,0,none⟩ = false:=by simp [World.frozen?,k1]
 have z2 : w5.frozen? ⟨pb + 1 + 1,0,none⟩ = false:=by simp [World.frozen?,k2]
 have HS5:=Lib.hid (HS.out.trans hS5)
 have K15:=Lib.hid k1
 have K25:=Lib.hid k2
 clear hS5 k1 k2
 go_wp2_with fail
 refine leaves_cons (f:=46) (args:=#[.pointer (some ⟨pb + 1,0,none⟩),.pointer (some ⟨pb + 1 + 1,0,none⟩)]) (by simp) (by simp [go_sem]) ?_
 refine (wcatch_idle (pb + 1) (pb + 1 + 1) _).mono ?_
 rintro e u' w'' ⟨rfl,rfl,rfl⟩
 have hC : But (fun k => k = pb + 1 ∨ k = pb + 1 + 1) w5 (((w5.setCell ⟨pb + 1,0,none⟩ (.string ⟨out.toArray⟩)).setCell ⟨pb + 1 + 1,0,none⟩ (.int .i64 0)).alloc (.cells #[.int .i64 0] 83)) :=
  (But.setCell (p:=⟨pb + 1 + 1,0,none⟩) (But.setCell (p:=⟨pb + 1,0,none⟩) (But.refl _ _) (.inl (.inl rfl)) _) (.inl (.inr rfl)) _).alloc _
 have hl5 : pb + 1 + 1 < w5.heap.size:=(Array.getElem?_eq_some_iff.1 K25.out).1
 have j1 : (((w5.setCell ⟨pb + 1,0,none⟩ (.string ⟨out.toArray⟩)).setCell ⟨pb + 1 + 1,0,none⟩ (.int .i64 0)).alloc (.cells #[.int .i64 0] 83)).heap[pb + 1]? = some (.cells #[.string ⟨out.toArray⟩] 9):=by
  rw [Below.heap_alloc _ _ _ (by simp [World.setCell]; omega),Below.heap_setCell _ _ _ _ (by show pb + 1 ≠ pb + 1 + 1; omega)]
  simpa using set_page (w:=w5) (pb:=pb + 1) (i:=0) (.string ⟨out.toArray⟩) K15.out
 have j2 : (((w5.setCell ⟨pb + 1,0,none⟩ (.string ⟨out.toArray⟩)).setCell ⟨pb + 1 + 1,0,none⟩ (.int .i64 0)).alloc (.cells #[.int .i64 0] 83)).heap[pb + 1 + 1]? = some (.cells #[.int .i64 0] 30):=by
  rw [Below.heap_alloc _ _ _ (by simp [World.setCell]; omega)]
  have h9 : (w5.setCell ⟨pb + 1,0,none⟩ (.string ⟨out.toArray⟩)).heap[pb + 1 + 1]? = some (.cells #[.int .i64 0] 30):=by rw [Below.heap_setCell _ _ _ _ (by show pb + 1 + 1 ≠ pb + 1; omega)]; exact K25.out
  simpa using set_page (w:=w5.setCell ⟨pb + 1,0,none⟩ (.string ⟨out.toArray⟩)) (pb:=pb + 1 + 1) (i:=0) (.int .i64 0) h9
 clear x1 x2 z1 z2
 generalize (((w5.setCell ⟨pb + 1,0,none⟩ (.string ⟨out.toArray⟩)).setCell ⟨pb + 1 + 1,0,none⟩ (.int .i64 0)).alloc (.cells #[.int .i64 0] 83)) = w6 at *
 have y0:=cell_at3 (i:=0) j1 rfl
 have y1:=cell_at3 (i:=0) j2 rfl
 simp [Leaves,settle,results,Tryz.results23,go_sem,y0,y1]
 refine ⟨.inl ⟨hr4,by simp⟩,?_⟩
 have hlow:=HS5.out.below (by omega) (Nat.le_refl pb)
 exact ⟨hC.os.trans (hlow.os.trans HB3.out.os),hC.tape.trans (hlow.tape.trans HB3.out.tape),hC.output.trans (hlow.output.trans HB3.out.output),Nat.le_trans HB3.out.size (Nat.le_trans hlow.size hC.size),fun q hq => (hC.block q (by have:=hlow.size; omega) (by omega)).trans ((hlow.block q hq).trans (HB3.out.block q (by omega) (fun h => h)))⟩
end Go.Proofs.YtkigpbkkhgabeaaGreatDoor
