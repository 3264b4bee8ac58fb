import Derived.Test.YtkigpbkkhgabeaaGreatDoorYWra
set_option linter.unusedVariables false
set_option linter.unusedSimpArgs false
namespace Go.Proofs.YtkigpbkkhgabeaaGreatDoor
open Go.RowKit Go.Lib
variable {B : Nat} {L : List UInt8} {A : Option Addr} {c rb : Nat}
set_option maxRecDepth 100000 in
set_option maxHeartbeats 1000000 in
theorem rpeekq_c {w : World} {p : Nat} (h : REnv B L A c rb w p) :
  Calls Tryz.prog 79 #[.pointer (some ⟨rb,0,none⟩)] w fun e w' => e = .returned (.int .u8 ((nxt L p).toNat : Int)) ∧ ∃ m,w' = w.drewN m:=by
 have mixed : Tryz.prog.follows .mixedOrders = true:=by kernel_rfl
 obtain ⟨c0,c1,-⟩:=h.cells
 rcases Nat.lt_or_ge p L.length with hp | hp
 ·obtain ⟨x,hx⟩ : ∃ x,L[p]? = some x:=⟨_,List.getElem?_eq_getElem hp⟩
  obtain ⟨g,off,rfl,hg,hc⟩:=h.oct p x hx
  have hn : nxt L p = x:=by unfold nxt; rw [hx]; rfl
  rw [hn]
  have hfit:=h.fits
  have hcap:=h.cap
  clear h hx hn
  go_enter Tryz.func79,Tryz.ntmps79
  go_upto_region 1 with fail
  go_region_o
  all_goals go_upto_region 2 with fail
  all_goals go_region_o
  all_goals go_wp2
  all_goals go_ret
  all_goals exact ⟨rfl,2,rfl⟩
 ·have hn : nxt L p = 0:=by unfold nxt; rw [List.getElem?_eq_none hp]; rfl
  have hpe : p = L.length:=Nat.le_antisymm h.here hp
  rw [hn]
  have hfit:=h.fits
  subst hpe
  clear h hn hp
  go_enter Tryz.func79,Tryz.ntmps79
  go_upto_region 1 with fail
  go_region_o
  all_goals go_wp2
  all_goals go_ret
  all_goals exact ⟨rfl,1,rfl⟩
theorem quietS7 {P : Program} {f : FuncId} {args : Array Value} {w : World} {n : Nat} {v : Value}
  (h : Calls P f args (w.drewN n) fun e w' => e = .returned v ∧ ∃ k,w' = (w.drewN n).drewN k) :
  Calls P f args (w.drewN n) fun e w'' => e = .returned v ∧ ∃ m,w'' = w.drewN m :=
 h.mono fun _ _ ⟨he,k,hk⟩ => ⟨he,n + k,by rw [hk]; simp only [World.drewN_drewN]⟩
theorem rWord_cons {x : UInt8} {r : List UInt8} {p q : Nat} (h : rWord (x :: r) L p = .ok () q) : L[p]? = some x ∧ rWord r L (p + 1) = .ok () q:=by
 unfold rWord at h
 obtain ⟨u,p1,h1,h2⟩:=bind_ok h
 unfold rNeed at h1
 cases hx : L[p]? with
 | none => rw [hx] at h1; cases h1
 | some y =>
  rw [hx] at h1
  simp only at h1
  split at h1
  ·rename_i hy
   injection h1 with _ h1
   subst h1
   exact ⟨by rw [eq_of_beq hy],h2⟩
  ·cases h1
theorem rWord_nil {p q : Nat} (h : rWord [] L p = .ok () q) : q = p ∧ rApart L p = .ok () p:=by
 unfold rWord at h
 have h1:=h
 unfold rApart at h1
 cases hx : L[p]? with
 | none => rw [hx] at h1; injection h1 with _ h1; subst h1; exact ⟨rfl,h⟩
 | some y =>
  rw [hx] at h1
  simp only at h1
  split at h1
  ·cases h1
  ·injection h1 with _ h1; subst h1; exact ⟨rfl,h⟩
set_option maxRecDepth 4000000 in
set_option maxHeartbeats 4000000 in
theorem rlit_c {w : World} {p q : Nat} {s : List UInt8} {kd : Int} (E : REnv B L A c rb w p) (h : rWord s L p = .ok () q) (hs : s.length ≤ 5) :
  Calls Tryz.prog 84 #[.pointer (some ⟨rb,0,none⟩),.string ⟨s.toArray⟩,.int .i64 kd] w fun e w' => e = .returned (.agg #[.int .i64 kd,.bool false,.slice none 0 0,.int .i64 0,.string ⟨#[]⟩,.slice none 0 0,.slice none 0 0]) ∧ REnv B L A c rb w' q ∧ But (fun k => k = rb) w w':=by
 obtain ⟨S,hS⟩ : ∃ S : ByteArray,(⟨s.toArray⟩ : ByteArray) = S:=⟨_,rfl⟩
 have hSs : S.size = s.length:=by rw [← hS]; show s.toArray.size = _; simp
 have hSg : ∀ i (hi : i < S.size) x,s[i]? = some x → S[i].toNat = x.toNat:=fun i hi x hx => by
  subst hS
  have h1 : (⟨s.toArray⟩ : ByteArray)[i] = s.toArray[i]'hi:=rfl
  rw [h1]
  have h2 : s.toArray[i]'hi = x:=by
   rw [List.getElem_toArray]
   rw [List.getElem?_eq_some_iff] at hx
   exact hx.2
  rw [h2]
 rw [hS]
 obtain ⟨rs,hrs⟩ : ∃ b,w.heap.size = b:=⟨_,rfl⟩
 have hrl:=E.lt
 have hb0 : But (fun k => k = rb) w (w.alloc (.cells #[.int .i64 0,.bool false,.slice none 0 0,.int .i64 0,.string ⟨#[]⟩,.slice none 0 0,.slice none 0 0] 28)):=(But.refl _ w).alloc _
 have hm:=World.alloc_heap_new w (.cells #[.int .i64 0,.bool false,.slice none 0 0,.int .i64 0,.string ⟨#[]⟩,.slice none 0 0,.slice none 0 0] 28)
 have hE0:=E.stay (C:=fun _ => False) ((But.refl _ w).alloc (.cells #[.int .i64 0,.bool false,.slice none 0 0,.int .i64 0,.string ⟨#[]⟩,.slice none 0 0,.slice none 0 0] 28)) (fun k h => h.elim)
 rw [hrs] at hm hrl
 have hSl : ((S.size : Nat) : Int) = (s.length : Int):=by rw [hSs]
 have HM:=Lib.hid hm
 have HB0:=Lib.hid hb0
 have HE0:=Lib.hid hE0
 have HSg:=Lib.hid hSg
 have HSs:=Lib.hid hSs
 have HR:=Lib.hid hrs
 clear hm hb0 hE0 hSg hS E hSl
 go_enter Tryz.func84,Tryz.ntmps84
 go_upto_region 2 with fail
 try rw [hrs]
 clear hrs
 generalize (w.alloc (.cells #[.int .i64 0,.bool false,.slice none 0 0,.int .i64 0,.string ⟨#[]⟩,.slice none 0 0,.slice none 0 0] 28)) = w0 at *
 go_loopw [7] (fun iv wr => ∃ i : Nat,i ≤ s.length ∧ iv = .int .i64 (i : Int) ∧ Hid (rWord (s.drop i) L (p + i) = .ok () q) ∧ Hid (REnv B L A c rb wr (p + i)) ∧ Hid (But (fun k => k = rb) w wr) ∧ Hid (wr.heap[rs]? = some (.cells #[.int .i64 0,.bool false,.slice none 0 0,.int .i64 0,.string ⟨#[]⟩,.slice none 0 0,.slice none 0 0] 28))) (fun iv _ => s.length - (RowKit.intOf iv).toNat)
 case atStart => exact ⟨0,Nat.zero_le _,rfl,h,HE0,HB0,HM⟩
 case round =>
  clear h HE0 HB0 HM
  obtain ⟨i,hi,rfl,HW,HE,HB,HM⟩:=hrel
  rcases Nat.lt_or_ge i s.length with hl | hl
  ·obtain ⟨x,hx⟩ : ∃ x,s[i]? = some x:=⟨_,List.getElem?_eq_getElem hl⟩
   have hd : s.drop i = x :: s.drop (i + 1):=by rw [List.drop_eq_getElem_cons hl]; rw [List.getElem?_eq_getElem hl] at hx; injection hx with hx; rw [hx]
   have hw:=HW.out
   rw [hd] at hw
   obtain ⟨hL,hw2⟩:=rWord_cons hw
   have hpl:=(List.getElem?_eq_some_iff.1 hL).1
   have hiS : i < S.size:=by rw [HSs.out]; exact hl
   have hsg:=HSg.out i hiS x hx
   have hpk:=fun W (hW : REnv B L A c rb W (p + i)) => rpeekq_c hW
   have hnx : nxt L (p + i) = x:=by unfold nxt; rw [hL]; rfl
   rw [hnx] at hpk
   have HPK:=Lib.hid hpk
   obtain ⟨c0,c1,c2⟩:=HE.out.cells
   have fz:=HE.out.frozen 1
   have hii : i < s.length:=hl
   have HW2:=Lib.hid hw2
   have hfit:=HE.out.fits
   have hge : ¬ L.length ≤ p + i:=by omega
   clear hpk hnx hw hw2 hx hd hL
   go_upto_region 4 with fail
   go_quiet ((go_at_call 79; exact quietS7 (HPK.out _ (HE.out.stay (C:=fun _ => False) ((But.refl _ _).drewN _) (fun k h => h.elim)))))
   all_goals go_wp2
   have hE2 : REnv B L A c rb ((wr.drewN nq).setCell ⟨rb,1,none⟩ (.int .i64 ((p : Int) + (i : Int) + 1))) (p + (i + 1)):=by
    have h:=(HE.out.stay (C:=fun _ => False) ((But.refl _ wr).drewN nq) (fun k h => h.elim)).to (q:=p + (i + 1)) (by omega)
    rw [show (((p + (i + 1) : Nat)) : Int) = (p : Int) + (i : Int) + 1 by omega] at h
    exact h
   have hb2 : But (fun k => k = rb) wr ((wr.drewN nq).setCell ⟨rb,1,none⟩ (.int .i64 ((p : Int) + (i : Int) + 1))):=But.setCell (C:=fun k => k = rb) (p:=⟨rb,1,none⟩) ((But.refl _ wr).drewN nq) (.inl rfl) _
   exact ⟨⟨i + 1,by omega,by go_num,HW2,hE2,HB.out.trans hb2,(hb2.block rs (Array.getElem?_eq_some_iff.1 HM.out).1 (by omega)).trans HM.out⟩,by simp [RowKit.intOf]; omega⟩
  ·obtain rfl : i = s.length:=by omega
   have hw:=HW.out
   rw [List.drop_length] at hw
   obtain ⟨rfl,hap⟩:=rWord_nil hw
   have hal:=ralone_c HE.out hap
   obtain ⟨c0,c1,c2⟩:=HE.out.cells
   have HAL:=Lib.hid hal
   clear hal hw hap HW
   go_wp2_with fail
   refine HAL.out.mono ?_
   rintro e9 w5 ⟨⟨v9,rfl⟩,hb5⟩
   have hm5:=(hb5.block rs (Array.getElem?_eq_some_iff.1 HM.out).1 (fun h => h)).trans HM.out
   have hE5:=HE.out.stay (C:=fun _ => False) hb5 (fun k h => h.elim)
   have hB5:=HB.out.trans (hb5.mono fun _ _ h => h.elim)
   obtain ⟨z0,z1,z2,z3,z4,z5,z6⟩:=box7_of hm5
   have fz : ∀ j,w5.frozen? ⟨rs,j,none⟩ = false:=fun j => frozen_of_row w5 _ j _ _ hm5
   have HE5:=Lib.hid hE5
   have HB5:=Lib.hid hB5
   clear hm5 hE5 hB5 hb5 c0 c1 c2
   go_wp2_with fail
   refine bodyPost_ret (v:=.agg #[.int .i64 kd,.bool false,.slice none 0 0,.int .i64 0,.string ⟨#[]⟩,.slice none 0 0,.slice none 0 0]) (by simp [results,Tryz.results84,go_sem,z0,z1,z2,z3,z4,z5,z6]) rfl ?_
   have hs1:=put7_but (But.refl (fun k => k = rs) w5) (b:=rs) (.inl rfl) (.int .i64 kd) (.bool false) (.slice none 0 0) (.int .i64 0) (.string ⟨#[]⟩) (.slice none 0 0) (.slice none 0 0)
   have hs2:=put7_but HB5.out (b:=rs) (.inr (Nat.le_of_eq HR.out)) (.int .i64 kd) (.bool false) (.slice none 0 0) (.int .i64 0) (.string ⟨#[]⟩) (.slice none 0 0) (.slice none 0 0)
   have hbase:=HE5.out.base
   exact ⟨rfl,HE5.out.stay hs1 (fun k hk => by omega),hs2⟩
end Go.Proofs.YtkigpbkkhgabeaaGreatDoor
