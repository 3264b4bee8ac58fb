import Derived.Test.YtkigpbkkhgabeaaGreatDoorYWrec
import Derived.Laws.AppendOwn
import Derived.OrdersHeld
set_option linter.unusedVariables false
set_option linter.unusedSimpArgs false
namespace Go.Proofs.YtkigpbkkhgabeaaGreatDoor
open Go.RowKit Go.Lib
theorem fst_four {l : List UInt8} {z : Int} (hp : partOf l = z) (hz : z ≠ -1) (hne : l ≠ []) : fstP (l.take 4) = (z,wid l) ∧ isCh z ∧ l.take (wid l) = encodeRune z ∧ wid l ≤ l.length:=by
 rcases part_cases hne with ⟨h,-⟩ | ⟨-,h1,h2,-⟩
 ·exact absurd (hp.symm.trans h) hz
 ·rw [hp] at h1 h2
  have hwl:=wid_le hne
  have hw1:=wid_ge l
  have hw4 : wid l ≤ 4:=by
   have h3:=congrArg List.length h2
   rw [List.length_take,Nat.min_eq_left hwl] at h3
   have:=(enc_len z).2
   omega
  have ht : l.take 4 = encodeRune z ++ (l.drop (wid l)).take (4 - wid l):=by
   rw [← h2]
   have : l.take 4 = (l.take (wid l) ++ l.drop (wid l)).take 4:=by rw [List.take_append_drop]
   rw [this,List.take_append]
   have hl : (l.take (wid l)).length = wid l:=by rw [List.length_take]; omega
   rw [hl,List.take_of_length_le (by omega)]
  have hl : (encodeRune z).length = wid l:=by rw [← h2,List.length_take]; omega
  obtain ⟨g1,g2⟩:=part_enc h1 ((l.drop (wid l)).take (4 - wid l))
  refine ⟨?_,h1,h2,hwl⟩
  rw [ht]
  unfold fstP
  rw [if_neg,g1,g2,hl]
  rintro (h | h)
  ·have:=congrArg List.length h
   rw [List.length_append,hl] at this
   simp at this
   omega
  ·rw [g1] at h; exact hz h
theorem rEsc_up {L : List UInt8} {p q : Nat} {z : Int} (h : rEscape L p = .ok z q) : p < q:=by
 unfold rEscape at h
 obtain ⟨d,q1,h1,h2⟩:=rAt_out (p:=p + 1) h
 obtain ⟨hd,rfl⟩:=rPeek_out h1
 split at h2
 ·have h3 : rCoded p L (p + 2) = .ok z q:=h2
  unfold rCoded at h3
  obtain ⟨n,q1,h4,h5⟩:=rAt_out h3
  obtain ⟨rfl,g2⟩:=rHex_at _ _ h4
  split at h5
  ·unfold rPure at h5
   injection h5 with h6 h7
   omega
  ·split at h5
   ·cases h5
   ·obtain ⟨v,q3,h6,h7⟩:=rAt_out h5
    have:=rLow_at h6
    unfold rPure at h7
    injection h7 with h8 h9
    omega
 ·cases ho : escOf d with
  | none => rw [ho] at h2; cases h2
  | some x =>
   rw [ho] at h2
   injection h2 with h3 h4
   omega
theorem grown_but {w0 w w' : World} {C : Nat → Prop} {v : Value} (hb : But C w0 w) (hg : w.grownBy w' v.ownBlock) (hv : ∀ g,v.ownBlock = some g → w0.heap.size ≤ g) : But C w0 w' :=
 ⟨hg.os.trans hb.os,hg.tape.trans hb.tape,hg.output.trans hb.output,Nat.le_trans hb.size hg.size,fun k hk hc => (hg.block k (Nat.lt_of_lt_of_le hk hb.size) (fun e => by have:=hv k e.symm; omega)).trans (hb.block k hk hc)⟩
theorem REnv.grown {B : Nat} {L : List UInt8} {A : Option Addr} {c rb n0 : Nat} {w w' : World} {p : Nat} {v : Value} (h : REnv B L A c rb w p) (hg : w.grownBy w' v.ownBlock) (hv : ∀ g,v.ownBlock = some g → n0 ≤ g) (hn : rb < n0) : REnv B L A c rb w' p :=
 h.stay (C:=fun k => some k = v.ownBlock) ⟨hg.os,hg.tape,hg.output,hg.size,fun k hk hc => hg.block k hk hc⟩ (fun k hk => by have:=hv k hk.symm; have:=h.base; omega)
theorem RowV.least {w : World} {base : Nat} {t : TypeId} {A : Option Addr} {n c : Nat} {vs : List Value} (h : RowV w base t A n c vs) : ∀ g,(Value.slice A n c).ownBlock = some g → base ≤ g:=by
 intro g hg
 rcases h.form with ⟨rfl,-⟩ | ⟨g2,rfl,h2,-⟩
 ·simp [Value.ownBlock] at hg
 ·simp [Value.ownBlock] at hg; omega
theorem bs8_app (a b : List UInt8) : bs8 (a ++ b) = bs8 a ++ bs8 b:=by unfold bs8; rw [List.map_append]
theorem bs8One7 {l : List UInt8} : ∀ u ∈ bs8 l,u.oneCell' = true:=fun u hu => by
 unfold bs8 at hu
 obtain ⟨b,-,rfl⟩:=List.mem_map.1 hu
 rfl
def atO (rb : Nat) (w : World) : Nat:=match w.cell? ⟨rb,1,none⟩ with | some (.int _ z) => z.toNat | _ => 0
theorem REnv.at_of {B : Nat} {L : List UInt8} {A : Option Addr} {c rb : Nat} {w : World} {p : Nat} (h : REnv B L A c rb w p) : atO rb w = p:=by
 unfold atO; rw [h.cells.2.1]; simp
theorem nxt_of {L : List UInt8} {p : Nat} {x : UInt8} (h : L[p]? = some x) : nxt L p = x:=by unfold nxt; rw [h]; rfl
set_option maxRecDepth 100000 in
set_option maxHeartbeats 4000000 in
theorem rtext7_c {B : Nat} {L : List UInt8} {A : Option Addr} {c rb : Nat} {w : World} {p q : Nat} {t : ByteArray} (E : REnv B L A c rb w p) (h : rText L p = .ok t q) (hpl : p < L.length) (hqL : q ≤ L.length) :
  Calls Tryz.prog 82 #[.pointer (some ⟨rb,0,none⟩)] w fun e w' => e = .returned (.string t) ∧ REnv B L A c rb w' q ∧ But (fun k => k = rb) w w':=by
 have mixed : Tryz.prog.follows .mixedOrders = true:=by kernel_rfl
 unfold rText at h
 obtain ⟨tl,htl,hlen,rfl⟩ : ∃ tl,rChars fuelR [] L (p + 1) = .ok tl q ∧ tl.length ≤ 16384 ∧ t = ⟨tl.toArray⟩:=by
  cases hr : rChars fuelR [] L (p + 1) with
  | bad q2 e => rw [hr] at h; cases h
  | ok tl q2 =>
   rw [hr] at h
   simp only [RR.bind] at h
   split at h
   ·cases h
   ·injection h with h1 h2
    subst h2
    exact ⟨tl,rfl,by omega,h1.symm⟩
 obtain ⟨c0,c1,c2⟩:=E.cells
 have f1:=E.frozen 1
 have hfit:=E.fits
 have hcap:=E.cap
 have hrl:=E.lt
 have hE1:=E.to (q:=p + 1) (by omega)
 have hb1 : But (fun k => k = rb) w (w.setCell ⟨rb,1,none⟩ (.int .i64 ((p + 1 : Nat) : Int))):=But.setCell (C:=fun k => k = rb) (p:=⟨rb,1,none⟩) (But.refl _ _) (.inl rfl) _
 have hs1 : (w.setCell ⟨rb,1,none⟩ (.int .i64 ((p + 1 : Nat) : Int))).heap.size = w.heap.size:=by simp [World.setCell]
 have e1 : ((p + 1 : Nat) : Int) = (p : Int) + 1:=by omega
 rw [e1] at hE1 hb1 hs1
 have HTL:=Lib.hid htl
 clear E h htl e1
 go_enter Tryz.func82,Tryz.ntmps82
 go_wp2_with fail
 generalize (w.setCell ⟨rb,1,none⟩ (.int .i64 ((p : Int) + 1))) = w0 at *
 clear c0 c1 c2 f1
 go_loopw [4] (fun ov wr => ∃ (m k no co : Nat) (acc : List UInt8) (Ao : Option Addr),ov = .slice Ao no co ∧ Hid (RowV wr w.heap.size 5 Ao no co (bs8 acc)) ∧ Hid (rChars m acc L k = .ok tl q) ∧ Hid (acc.length ≤ 4 * k) ∧ Hid (REnv B L A c rb wr k) ∧ Hid (But (fun k => k = rb) w wr)) (fun _ wr => L.length - atO rb wr)
 case atStart => exact ⟨fuelR,p + 1,0,0,[],none,rfl,RowV.nil _ _ _,HTL.out,by show _ ≤ _; simp,hE1,hb1⟩
 case round =>
  clear hE1 hb1 hs1
  obtain ⟨m,k,no,co,acc,Ao,rfl,hrow,hch,hal,hE,hB⟩:=hrel
  have hat:=hE.out.at_of
  have hkl:=hE.out.here
  obtain ⟨m',rfl⟩ : ∃ m',m = m' + 1:=by
   cases m with
   | zero => have h9:=hch.out; unfold rChars rFail at h9; cases h9
   | succ m => exact ⟨m,rfl⟩
  have hc1:=hch.out
  unfold rChars at hc1
  obtain ⟨x,k2,h1,h2⟩:=rAt_out hc1
  obtain ⟨hx,rfl⟩:=rPeek_out h1
  have hklt : k2 < L.length:=(List.getElem?_eq_some_iff.1 hx).1
  have hno:=hrow.out.len
  rw [bs8_length] at hno
  obtain ⟨c0,c1,c2⟩:=hE.out.cells
  have hpk:=rpeek_c hE.out
  rw [nxt_of hx] at hpk
  have HPK:=Lib.hid hpk
  clear hpk hc1 h1 hch
  go_wp2_with fail
  refine HPK.out.mono ?_
  rintro e9 w1 ⟨rfl,hb9⟩
  have hE1:=hE.out.stay (C:=fun _ => False) hb9 (fun k h => h.elim)
  have hrow1:=hrow.out.keep (w':=w1) (fun g hg => by
   rcases hrow.out.form with ⟨h,-⟩ | ⟨g2,h,-,hl⟩
   ·rw [h] at hg; cases hg
   ·rw [h] at hg; injection hg with hg; injection hg with hg; subst hg; exact hb9.block _ hl (fun h => h))
  have hB1:=hB.out.trans (hb9.mono (fun _ _ h => h.elim))
  have hat1:=hE1.at_of
  clear c0 c1 c2 HPK hb9 hE hrow hB
  obtain ⟨c0,c1,c2⟩:=hE1.cells
  have f1:=hE1.frozen 1
  go_upto_region 13 with fail
  go_region_o
  have hED : REnv B L A c rb w1.drew k2:=hE1.stay (C:=fun _ => False) (But.refl _ _).drew (fun k h => h.elim)
  have hBD : But (fun k => k = rb) w w1.drew:=hB1.drew
  have hrowD:=hrow1.drew
  generalize w1.drew = w2 at *
  clear c0 c1 c2 f1 hE1 hB1 hrow1 hat1
  obtain ⟨c0,c1,c2⟩:=hED.cells
  have f1:=hED.frozen 1
  have hat2:=hED.at_of
  by_cases hx34 : x = 34
  ·subst hx34
   have h3 : rChars (m' + 1) acc L k2 = .ok tl q:=by unfold rChars; rw [rAt_ok (show rPeek L k2 = .ok 34 k2 by unfold rPeek; rw [hx])]; exact h2
   rw [if_pos (by decide)] at h2
   injection h2 with h4 h5
   subst h4 h5
   have hE3:=hED.to (q:=k2 + 1) (by omega)
   have hb3 : But (fun k => k = rb) w2 (w2.setCell ⟨rb,1,none⟩ (.int .i64 ((k2 + 1 : Nat) : Int))):=But.setCell (C:=fun k => k = rb) (p:=⟨rb,1,none⟩) (But.refl _ _) (.inl rfl) _
   have hrow3 : RowV (w2.setCell ⟨rb,1,none⟩ (.int .i64 ((k2 + 1 : Nat) : Int))) w.heap.size 5 Ao no co (bs8 acc):=hrowD.keep (fun g hg => by
    rcases hrowD.form with ⟨h,-⟩ | ⟨g2,h,hg3,hl⟩
    ·rw [h] at hg; cases hg
    ·rw [h] at hg; injection hg with hg; injection hg with hg; subst hg; exact hb3.block _ hl (fun h => by omega))
   have e1 : ((k2 + 1 : Nat) : Int) = (k2 : Int) + 1:=by omega
   rw [e1] at hE3 hb3 hrow3
   have hcv:=hrow3.rd.conv (c:=co)
   have hgt : ¬ (16384 : Int) < (no : Int):=by omega
   have HE3:=Lib.hid hE3
   have HB3:=Lib.hid (hBD.trans hb3)
   clear hE3 hb3 hrow3 e1 h3
   go_wp2_with fail
   go_ret
   exact ⟨rfl,HE3.out,HB3.out⟩
  ·have hx34b : ((x.toNat : Int) == 34) = false:=by rw [beq_eq_false_iff_ne]; intro e; exact hx34 (is34.2 e)
   rw [if_neg (by simpa using hx34)] at h2
   obtain ⟨z,k3,h3,h4⟩:=rAt_out h2
   have hk3 : k3 ≤ L.length:=by
    rcases Nat.lt_or_ge L.length k3 with h | h
    ·exact absurd h4 (by
      cases m' with
      | zero => unfold rChars rFail; simp
      | succ m => unfold rChars rAt rPeek; rw [List.getElem?_eq_none (by omega)]; simp [RR.bind])
    ·exact h
   unfold rChar at h3
   obtain ⟨y,k4,h5,h6⟩:=rAt_out h3
   obtain ⟨hy,rfl⟩:=rPeek_out h5
   rw [hx] at hy
   injection hy with hy
   subst hy
   by_cases hx92 : x = 92
   ·subst hx92
    rw [if_pos (by decide)] at h6
    have hes:=resc_c hED h6 hk3
    have hup:=rEsc_up h6
    have HES:=Lib.hid hes
    have H4:=Lib.hid h4
    have HROW:=Lib.hid hrowD
    have HBD:=Lib.hid hBD
    clear hes h2 h3 h4 h5 h6 hrowD hBD hED hat2
    go_wp2_with fail
    refine HES.out.mono ?_
    rintro e9 w3 ⟨g3,m3,rfl,hg3,hrw3,hE3,hb3⟩
    have hrow3:=HROW.out.keep (w':=w3) (fun g hg => by
     rcases HROW.out.form with ⟨h,-⟩ | ⟨g2,h,hg4,hl⟩
     ·rw [h] at hg; cases hg
     ·rw [h] at hg; injection hg with hg; injection hg with hg; subst hg; exact hb3.block _ hl (fun h => by omega))
    have hnews : ∀ (j : Nat) u,(bs8 (encodeRune z))[j]? = some u → w3.cell? ((⟨g3,0,none⟩ : Addr).add j) = some u:=fun j u hu => hrw3.own.cells (g:=g3) rfl j u hu
    have hm3 : (bs8 (encodeRune z)).length = m3:=hrw3.len
    have hm4 : m3 ≤ 4:=by rw [← hm3,bs8_length]; exact (enc_len z).2
    have hal2:=hal.out
    have hb4:=HBD.out.trans hb3
    have hsz4 : w.heap.size ≤ w3.heap.size:=hb4.size
    have HR3:=Lib.hid hrow3
    have HNW:=Lib.hid hnews
    have HM3:=Lib.hid hm3
    have HE3:=Lib.hid hE3
    have HB4:=Lib.hid hb4
    clear hrow3 hnews hm3 hE3 hb3 hb4 hrw3 HES c0 c1 c2 f1
    obtain ⟨i0,hi,hz0,hz1,hz2⟩:=info_parts infoU8
    go_wp2_with (at_builtin; refine wpList_append_own _ rfl (.tmp 144) (.tmp 146) _ rfl w.heap.size 5 i0 (.int .u8 0) 1 1 Tryz.underlying38 hi hz0 hz1 hz2 rfl (by decide) (.slice Ao no co) no (bs8 acc) rfl HR3.out.own ⟨g3,0,none⟩ m3 m3 (bs8 (encodeRune z)) rfl (by rw [HM3.out]; omega) HNW.out bs8One7 (by unfold maxLen; omega) (by omega) hsz4 ?_; intro v' w5 hown5 hg5 _)
    obtain ⟨A5,c5,e5,hr5⟩:=RowV.of_row (by rw [List.length_append,HR3.out.len,HM3.out]) hown5
    subst e5
    have hE5:=HE3.out.grown hg5 HR3.out.least hrl
    go_roundw
    case rel =>
     refine ⟨m',k3,no + m3,c5,acc ++ encodeRune z,A5,rfl,?_,H4.out,?_,hE5,grown_but HB4.out hg5 HR3.out.least⟩
     ·show RowV _ _ _ _ _ _ _
      rw [bs8_app]; exact hr5
     ·show _ ≤ _
      rw [List.length_append]
      have:=(enc_len z).2
      omega
    case measure => rw [hE5.at_of,hat]; omega
   ·have hx92b : ((x.toNat : Int) == 92) = false:=by rw [beq_eq_false_iff_ne]; intro e; exact hx92 (is92.2 e)
    rw [if_neg (by simpa using hx92)] at h6
    by_cases hx32 : x < 32
    ·rw [if_pos hx32] at h6; cases h6
    rw [if_neg hx32] at h6
    have hx32i : ¬ (x.toNat : Int) < 32:=fun h => hx32 (by show x.toNat < 32; omega)
    have hraw : partOf (L.drop k4) = z ∧ z ≠ -1 ∧ k3 = k4 + wid (L.drop k4):=by
     by_cases hf : fullL (L.drop k4) = true
     ·rw [if_pos hf] at h6
      by_cases hp : partOf (L.drop k4) = -1
      ·rw [if_pos hp] at h6; cases h6
      ·rw [if_neg hp] at h6
       injection h6 with h7 h8
       exact ⟨h7,by rw [← h7]; exact hp,h8.symm⟩
     ·rw [if_neg hf] at h6; cases h6
    obtain ⟨hpz,hz1,rfl⟩:=hraw
    have hdne : L.drop k4 ≠ []:=fun h => by
     have:=congrArg List.length h
     rw [List.length_drop,List.length_nil] at this
     omega
    obtain ⟨hfst,hzc,htk,hwl⟩:=fst_four hpz hz1 hdne
    have hw1:=wid_ge (L.drop k4)
    obtain ⟨g,off,rfl,hgB,hcx⟩:=hED.oct k4 x hx
    obtain ⟨e4,he4⟩ : ∃ e4,min L.length (k4 + 4) = e4:=⟨_,rfl⟩
    have hmn : min (L.length : Int) ((k4 : Int) + 4) = (e4 : Int):=by omega
    have hXl : ((L.drop k4).take 4).length = e4 - k4:=by rw [List.length_take,List.length_drop]; omega
    have hFc:=First_c ((L.drop k4).take 4)
    rw [hfst] at hFc
    have hcv : ∀ V : World,REnv B L (some ⟨g,off,none⟩) c rb V k4 → (convert 38 9 (.slice (some ⟨g,off + k4,none⟩) (e4 - k4) (c - k4))).run Tryz.prog V = .ok (.string (mk8 ((L.drop k4).take 4))) V:=fun V hV => by
     rw [← hXl]
     refine run_convert_bytes_back _ _ _ _ ⟨g,off + k4,none⟩ (c - k4) ((L.drop k4).take 4) Tryz.underlying38 Tryz.underlying5 Tryz.underlying9 (fun j hj => ?_)
     rw [show (⟨g,off + k4,none⟩ : Addr).add j = ⟨g,off + k4 + j,none⟩ from by unfold Addr.add; split <;> simp_all]
     have hj2 : L[k4 + j]? = some ((L.drop k4).take 4)[j]:=by
      rw [← List.getElem?_eq_getElem hj,List.getElem?_take,List.getElem?_drop]
      rw [if_pos (by omega)]
     obtain ⟨g2,off2,hA,-,hcc⟩:=hV.oct _ _ hj2
     injection hA with hA
     injection hA with hA1 hA2
     subst hA1 hA2
     rw [Nat.add_assoc]
     exact hcc
    have hED2 : REnv B L (some ⟨g,off,none⟩) c rb w2.drew k4:=hED.stay (C:=fun _ => False) (But.refl _ _).drew (fun k h => h.elim)
    have hcv2:=hcv w2.drew hED2
    have HED2:=Lib.hid hED2
    have HCV:=Lib.hid hcv
    have HF:=Lib.hid hFc
    have H4:=Lib.hid h4
    have HROW:=Lib.hid hrowD
    have HBD:=Lib.hid hBD
    have HED:=Lib.hid hED
    have HTK:=Lib.hid htk
    have HX:=Lib.hid hx
    clear hcv hFc h2 h3 h4 h5 h6 hrowD hBD hED hED2 hat2 htk hcx hfst hx hpz
    go_upto_region 6 with fail
    refine wp_region_held_drew (S:=fun V => V.cell? ⟨rb,0,none⟩ = some (.slice (some ⟨g,off,none⟩) L.length c) ∧ V.cell? ⟨rb,1,none⟩ = some (.int .i64 (k4 : Int)) ∧ (convert 38 9 (.slice (some ⟨g,off + k4,none⟩) (e4 - k4) (c - k4))).run Tryz.prog V = .ok (.string (mk8 ((L.drop k4).take 4))) V) (by kernel_rfl) ⟨c0,c1,hcv2⟩ (fun hHeld => ?_)
    (try simp only [List.size_toArray,List.length_cons,List.length_nil,Nat.reduceAdd,Array.replicate_succ,Array.replicate_zero,List.push_toArray,List.append_toArray,List.nil_append,List.cons_append])
    refine wpAnyH_take (i:=0) (oi:=⟨_,_,_,_,_,_⟩) (v:=?_) rfl (by kernel_rfl) (by kernel_rfl) (by kernel_rfl) (fun _ _ _ h => h) (Or.inl ⟨by rfl,?_⟩) (by assumption) ?_
    rotate_left
    ·intro w hSw
     (try dsimp only at hSw)
     go_split_ands
     go_simp
     try with_reducible rfl
    try simp only [Act.put,List.setIfInBounds_toArray,List.set_cons_zero,List.set_cons_succ]
    refine wpAnyH_take (i:=1) (oi:=⟨_,_,_,_,_,_⟩) (v:=?_) rfl (by kernel_rfl) (by kernel_rfl) (by kernel_rfl) (fun _ _ _ h => h) (Or.inl ⟨by rfl,?_⟩) (by assumption) ?_
    rotate_left
    ·intro w hSw
     (try dsimp only at hSw)
     go_split_ands
     go_simp
     try with_reducible rfl
    try simp only [Act.put,List.setIfInBounds_toArray,List.set_cons_zero,List.set_cons_succ]
    refine wpAnyH_take (i:=2) (oi:=⟨_,_,_,_,_,_⟩) (v:=?_) rfl (by kernel_rfl) (by kernel_rfl) (by kernel_rfl) (fun _ _ _ h => h) (Or.inl ⟨by rfl,?_⟩) (by assumption) ?_
    rotate_left
    ·intro w hSw
     (try dsimp only at hSw)
     go_split_ands
     go_simp
     try with_reducible rfl
    try simp only [Act.put,List.setIfInBounds_toArray,List.set_cons_zero,List.set_cons_succ]
    refine wpAnyH_take (i:=3) (oi:=⟨_,_,_,_,_,_⟩) (v:=?_) rfl (by kernel_rfl) (by kernel_rfl) (by kernel_rfl) (fun _ _ _ h => h) (Or.inl ⟨by rfl,?_⟩) (by assumption) ?_
    rotate_left
    ·intro w hSw
     (try dsimp only at hSw)
     go_split_ands
     go_simp
     try with_reducible rfl
    try simp only [Act.put,List.setIfInBounds_toArray,List.set_cons_zero,List.set_cons_succ]
    refine wpAnyH_take (i:=4) (oi:=⟨_,_,_,_,_,_⟩) (v:=?_) rfl (by kernel_rfl) (by kernel_rfl) (by kernel_rfl) (fun _ _ _ h => h) (Or.inl ⟨by rfl,?_⟩) (by assumption) ?_
    rotate_left
    ·intro w hSw
     (try dsimp only at hSw)
     go_split_ands
     go_simp
     try with_reducible rfl
    try simp only [Act.put,List.setIfInBounds_toArray,List.set_cons_zero,List.set_cons_succ]
    refine wpAnyH_take (i:=5) (oi:=⟨_,_,_,_,_,_⟩) (v:=?_) rfl (by kernel_rfl) (by kernel_rfl) (by kernel_rfl) (fun _ _ _ h => h) (Or.inl ⟨by rfl,?_⟩) (by assumption) ?_
    rotate_left
    ·intro w hSw
     (try dsimp only at hSw)
     go_split_ands
     go_simp
     try with_reducible rfl
    try simp only [Act.put,List.setIfInBounds_toArray,List.set_cons_zero,List.set_cons_succ]
    refine wpAnyH_take (i:=6) (oi:=⟨_,_,_,_,_,_⟩) (v:=?_) rfl (by kernel_rfl) (by kernel_rfl) (by kernel_rfl) (fun _ _ _ h => h) (Or.inl ⟨by rfl,?_⟩) (by assumption) ?_
    rotate_left
    ·intro w hSw
     (try dsimp only at hSw)
     go_split_ands
     go_simp
     try with_reducible rfl
    try simp only [Act.put,List.setIfInBounds_toArray,List.set_cons_zero,List.set_cons_succ]
    refine wpAnyH_take (i:=7) (oi:=⟨_,_,_,_,_,_⟩) (v:=?_) rfl (by kernel_rfl) (by kernel_rfl) (by kernel_rfl) (fun _ _ _ h => h) (Or.inl ⟨by rfl,?_⟩) (by assumption) ?_
    rotate_left
    ·intro w hSw
     (try dsimp only at hSw)
     go_split_ands
     go_simp
     try with_reducible rfl
    try simp only [Act.put,List.setIfInBounds_toArray,List.set_cons_zero,List.set_cons_succ]
    refine wpAnyH_take (i:=8) (oi:=⟨_,_,_,_,_,_⟩) (v:=?_) rfl (by kernel_rfl) (by kernel_rfl) (by kernel_rfl) (fun _ _ _ h => h) (Or.inl ⟨by rfl,?_⟩) (by assumption) ?_
    rotate_left
    ·intro w hSw
     (try dsimp only at hSw)
     go_split_ands
     go_simp
     try with_reducible rfl
    try simp only [Act.put,List.setIfInBounds_toArray,List.set_cons_zero,List.set_cons_succ]
    refine wpAnyH_take (i:=9) (oi:=⟨_,_,_,_,_,_⟩) (v:=?_) rfl (by kernel_rfl) (by kernel_rfl) (by kernel_rfl) (fun _ _ _ h => h) (Or.inl ⟨by rfl,?_⟩) (by assumption) ?_
    rotate_left
    ·intro w hSw
     (try dsimp only at hSw)
     go_split_ands
     go_simp
     try with_reducible rfl
    try simp only [Act.put,List.setIfInBounds_toArray,List.set_cons_zero,List.set_cons_succ]
    refine wpAnyH_take (i:=10) (oi:=⟨_,_,_,_,_,_⟩) (v:=?_) rfl (by kernel_rfl) (by kernel_rfl) (by kernel_rfl) (fun _ _ _ h => h) (Or.inl ⟨by rfl,?_⟩) (by assumption) ?_
    rotate_left
    ·intro w hSw
     (try dsimp only at hSw)
     go_split_ands
     go_simp
     try with_reducible rfl
    try simp only [Act.put,List.setIfInBounds_toArray,List.set_cons_zero,List.set_cons_succ]
    refine wpAnyH_take (i:=11) (oi:=⟨_,_,_,_,_,_⟩) (v:=?_) rfl (by kernel_rfl) (by kernel_rfl) (by kernel_rfl) (fun _ _ _ h => h) (Or.inl ⟨by rfl,?_⟩) (by assumption) ?_
    rotate_left
    ·intro w hSw
     (try dsimp only at hSw)
     go_split_ands
     go_simp
     try with_reducible rfl
    try simp only [Act.put,List.setIfInBounds_toArray,List.set_cons_zero,List.set_cons_succ]
    refine wpAnyH_take (i:=12) (oi:=⟨_,_,_,_,_,_⟩) (v:=?_) rfl (by kernel_rfl) (by kernel_rfl) (by kernel_rfl) (fun _ _ _ h => h) (Or.inl ⟨by rfl,?_⟩) (by assumption) ?_
    rotate_left
    ·intro w hSw
     (try dsimp only at hSw)
     go_split_ands
     go_simp
     try with_reducible rfl
    try simp only [Act.put,List.setIfInBounds_toArray,List.set_cons_zero,List.set_cons_succ]
    refine wpAnyH_take (i:=13) (oi:=⟨_,_,_,_,_,_⟩) (v:=?_) rfl (by kernel_rfl) (by kernel_rfl) (by kernel_rfl) (fun _ _ _ h => h) (Or.inl ⟨by rfl,?_⟩) (by assumption) ?_
    rotate_left
    ·intro w hSw
     (try dsimp only at hSw)
     go_split_ands
     go_simp
     try with_reducible rfl
    try simp only [Act.put,List.setIfInBounds_toArray,List.set_cons_zero,List.set_cons_succ]
    refine wpAnyH_take (i:=14) (oi:=⟨_,_,_,_,_,_⟩) (v:=?_) rfl (by kernel_rfl) (by kernel_rfl) (by kernel_rfl) (fun _ _ _ h => h) (Or.inl ⟨by rfl,?_⟩) (by assumption) ?_
    rotate_left
    ·intro w hSw
     (try dsimp only at hSw)
     go_split_ands
     go_simp
     try with_reducible rfl
    try simp only [Act.put,List.setIfInBounds_toArray,List.set_cons_zero,List.set_cons_succ]
    refine wpAnyH_take (i:=15) (oi:=⟨_,_,_,_,_,_⟩) (v:=?_) rfl (by kernel_rfl) (by kernel_rfl) (by kernel_rfl) (fun _ _ _ h => h) (Or.inl ⟨by rfl,?_⟩) (by assumption) ?_
    rotate_left
    ·intro w hSw
     (try dsimp only at hSw)
     go_split_ands
     go_simp
     try with_reducible rfl
    try simp only [Act.put,List.setIfInBounds_toArray,List.set_cons_zero,List.set_cons_succ]
    refine wpAnyH_take (i:=16) (oi:=⟨_,_,_,_,_,_⟩) (v:=?_) rfl (by kernel_rfl) (by kernel_rfl) (by kernel_rfl) (fun _ _ _ h => h) (Or.inl ⟨by rfl,?_⟩) (by assumption) ?_
    rotate_left
    ·intro w hSw
     (try dsimp only at hSw)
     go_split_ands
     go_simp
     try with_reducible rfl
    try simp only [Act.put,List.setIfInBounds_toArray,List.set_cons_zero,List.set_cons_succ]
    refine wpAnyH_take (i:=17) (oi:=⟨_,_,_,_,_,_⟩) (v:=?_) rfl (by kernel_rfl) (by kernel_rfl) (by kernel_rfl) (fun _ _ _ h => h) (Or.inl ⟨by rfl,?_⟩) (by assumption) ?_
    rotate_left
    ·intro w hSw
     (try dsimp only at hSw)
     go_split_ands
     go_simp
     try with_reducible rfl
    try simp only [Act.put,List.setIfInBounds_toArray,List.set_cons_zero,List.set_cons_succ]
    refine wpAnyH_take (i:=18) (oi:=⟨_,_,_,_,_,_⟩) (v:=?_) rfl (by kernel_rfl) (by kernel_rfl) (by kernel_rfl) (fun _ _ _ h => h) (Or.inl ⟨by rfl,?_⟩) (by assumption) ?_
    rotate_left
    ·intro w hSw
     (try dsimp only at hSw)
     go_split_ands
     go_simp
     try with_reducible rfl
    try simp only [Act.put,List.setIfInBounds_toArray,List.set_cons_zero,List.set_cons_succ]
    have hmw : min (L.length : Int) (IntKind.i64.wrap ((k4 : Int) + 4)) = (e4 : Int):=by rw [IntWalk.i64_in _ (by omega)]; omega
    have hck : ¬ c = k4:=by omega
    have hke : k4 ≤ e4:=by omega
    have hec : (e4 : Int) ≤ (c : Int):=by omega
    have he0 : (0 : Int) ≤ (e4 : Int):=by omega
    rw [hmw]
    refine wpAnyH_take (i:=19) (oi:=⟨_,_,_,_,_,_⟩) (v:=?_) rfl (by kernel_rfl) (by kernel_rfl) (by kernel_rfl) (fun _ _ _ h => h) (Or.inl ⟨by rfl,?_⟩) (by assumption) ?_
    rotate_left
    ·intro w hSw
     (try dsimp only at hSw)
     go_split_ands
     go_simp
     try with_reducible rfl
    try simp only [Act.put,List.setIfInBounds_toArray,List.set_cons_zero,List.set_cons_succ]
    refine wpAnyH_take (i:=20) (oi:=⟨_,_,_,_,_,_⟩) (v:=?_) rfl (by kernel_rfl) (by kernel_rfl) (by kernel_rfl) (fun _ _ _ h => h) (Or.inl ⟨by rfl,?_⟩) (by assumption) ?_
    rotate_left
    ·intro w hSw
     (try dsimp only at hSw)
     go_split_ands
     go_simp
     try with_reducible rfl
    try simp only [Act.put,List.setIfInBounds_toArray,List.set_cons_zero,List.set_cons_succ]
    refine wpAnyH_ready (rs:=[21]) (by kernel_rfl) (by simp) (AllReadyH.cons (o:=⟨_,_,_,_,_,_⟩) rfl (fun K hK => ?_) AllReadyH.nil)
    go_simp
    refine (HF.out _ (by omega)).mono ?_
    rintro e9 w3 ⟨rfl,hb3⟩
    (try dsimp only)
    have hE3:=HED2.out.stay (C:=fun _ => False) (But.of hb3) (fun k h => h.elim)
    obtain ⟨d0,d1,d2⟩:=hE3.cells
    have hcv3:=HCV.out w3 hE3
    refine hK.out _ _ ⟨d0,d1,hcv3⟩ (fun hHeld2 => ?_)
    clear hK K hHeld
    try simp only [Act.put,List.setIfInBounds_toArray,List.set_cons_zero,List.set_cons_succ]
    refine wpAnyH_take (i:=22) (oi:=⟨_,_,_,_,_,_⟩) (v:=?_) rfl (by kernel_rfl) (by kernel_rfl) (by kernel_rfl) (fun _ _ _ h => h) (Or.inl ⟨by rfl,?_⟩) (by assumption) ?_
    rotate_left
    ·intro w hSw
     (try dsimp only at hSw)
     go_split_ands
     go_simp
     try with_reducible rfl
    try simp only [Act.put,List.setIfInBounds_toArray,List.set_cons_zero,List.set_cons_succ]
    refine wpAnyH_take (i:=23) (oi:=⟨_,_,_,_,_,_⟩) (v:=?_) rfl (by kernel_rfl) (by kernel_rfl) (by kernel_rfl) (fun _ _ _ h => h) (Or.inl ⟨by rfl,?_⟩) (by assumption) ?_
    rotate_left
    ·intro w hSw
     (try dsimp only at hSw)
     go_split_ands
     go_simp
     try with_reducible rfl
    try simp only [Act.put,List.setIfInBounds_toArray,List.set_cons_zero,List.set_cons_succ]
    refine wpAnyH_take (i:=24) (oi:=⟨_,_,_,_,_,_⟩) (v:=?_) rfl (by kernel_rfl) (by kernel_rfl) (by kernel_rfl) (fun _ _ _ h => h) (Or.inl ⟨by rfl,?_⟩) (by assumption) ?_
    rotate_left
    ·intro w hSw
     (try dsimp only at hSw)
     go_split_ands
     go_simp
     try with_reducible rfl
    try simp only [Act.put,List.setIfInBounds_toArray,List.set_cons_zero,List.set_cons_succ]
    refine wpAnyH_take (i:=25) (oi:=⟨_,_,_,_,_,_⟩) (v:=?_) rfl (by kernel_rfl) (by kernel_rfl) (by kernel_rfl) (fun _ _ _ h => h) (Or.inl ⟨by rfl,?_⟩) (by assumption) ?_
    rotate_left
    ·intro w hSw
     (try dsimp only at hSw)
     go_split_ands
     go_simp
     try with_reducible rfl
    try simp only [Act.put,List.setIfInBounds_toArray,List.set_cons_zero,List.set_cons_succ]
    refine wpAnyH_take (i:=26) (oi:=⟨_,_,_,_,_,_⟩) (v:=?_) rfl (by kernel_rfl) (by kernel_rfl) (by kernel_rfl) (fun _ _ _ h => h) (Or.inl ⟨by rfl,?_⟩) (by assumption) ?_
    rotate_left
    ·intro w hSw
     (try dsimp only at hSw)
     go_split_ands
     go_simp
     try with_reducible rfl
    try simp only [Act.put,List.setIfInBounds_toArray,List.set_cons_zero,List.set_cons_succ]
    refine wpAnyH_done (by kernel_rfl) ?_ _
    have hb23 : But (fun _ => False) w2 w3:=((But.refl (fun _ => False) w2).drew).trans (But.of hb3)
    have hrow3:=HROW.out.keep (w':=w3) (fun g hg => by
     rcases HROW.out.form with ⟨h,-⟩ | ⟨g2,h,hg4,hl⟩
     ·rw [h] at hg; cases hg
     ·rw [h] at hg; injection hg with hg; injection hg with hg; subst hg; exact hb23.block _ hl (fun h => h))
    have hb4:=HBD.out.trans (hb23.mono (fun _ _ h => h.elim))
    have hsz4 : w.heap.size ≤ w3.heap.size:=hb4.size
    obtain ⟨N,hN⟩ : ∃ N,wid (L.drop k4) = N:=⟨_,rfl⟩
    have htk:=HTK.out
    rw [hN] at htk hw1 hwl ⊢
    rw [List.length_drop] at hwl
    have hNl : (encodeRune z).length = N:=by rw [← htk,List.length_take,List.length_drop]; omega
    have hN4 : N ≤ 4:=by rw [← hNl]; exact (enc_len z).2
    have hN0 : (0 : Int) < (N : Int):=by omega
    obtain ⟨e5,he5⟩ : ∃ e5,k4 + N = e5:=⟨_,rfl⟩
    have hsum : IntKind.i64.wrap ((k4 : Int) + (N : Int)) = (e5 : Int):=by rw [IntWalk.i64_in _ (by omega)]; omega
    have hke5 : k4 ≤ e5:=by omega
    have hec5 : (e5 : Int) ≤ (c : Int):=by omega
    have he50 : (0 : Int) ≤ (e5 : Int):=by omega
    have hnews : ∀ (j : Nat) u,(bs8 (encodeRune z))[j]? = some u → w3.drew.cell? ((⟨g,off + k4,none⟩ : Addr).add j) = some u:=fun j u hu => by
     unfold bs8 at hu
     rw [List.getElem?_map,← htk,List.getElem?_take] at hu
     split at hu
     ·rename_i hj
      rw [List.getElem?_drop] at hu
      cases hx5 : L[k4 + j]? with
      | none => rw [hx5] at hu; cases hu
      | some y =>
       rw [hx5] at hu
       obtain ⟨g2,off2,hA,-,hcc⟩:=hE3.oct _ _ hx5
       injection hA with hA
       injection hA with hA1 hA2
       subst hA1 hA2
       rw [show (⟨g,off + k4,none⟩ : Addr).add j = ⟨g,off + (k4 + j),none⟩ from by unfold Addr.add; rw [Nat.add_assoc]; split <;> simp_all]
       injection hu with hu
       rw [← hu]
       exact hcc
     ·cases hu
    have hal2:=hal.out
    have HR3:=Lib.hid hrow3
    have HNW:=Lib.hid hnews
    have HE3:=Lib.hid hE3
    have HB4:=Lib.hid hb4
    have HNL:=Lib.hid hNl
    clear hrow3 hnews hE3 hb3 hb23 hb4 htk hNl HCV HF HBD HED HED2 HTK c0 c1 c2 f1 hcv2 hcv3
    obtain ⟨i0,hi,hz0,hz1,hz2⟩:=info_parts infoU8
    go_upto_region 9 with fail
    refine wp_region_held_drew (S:=fun V => V.cell? ⟨rb,0,none⟩ = some (.slice (some ⟨g,off,none⟩) L.length c) ∧ V.cell? ⟨rb,1,none⟩ = some (.int .i64 (k4 : Int))) (by kernel_rfl) ⟨d0,d1⟩ (fun hHeld => ?_)
    (try simp only [List.size_toArray,List.length_cons,List.length_nil,Nat.reduceAdd,Array.replicate_succ,Array.replicate_zero,List.push_toArray,List.append_toArray,List.nil_append,List.cons_append])
    refine wpAnyH_take (i:=0) (oi:=⟨_,_,_,_,_,_⟩) (v:=?_) rfl (by kernel_rfl) (by kernel_rfl) (by kernel_rfl) (fun _ _ _ h => h) (Or.inl ⟨by rfl,?_⟩) (by assumption) ?_
    rotate_left
    ·intro w hSw
     (try dsimp only at hSw)
     go_split_ands
     go_simp
     try with_reducible rfl
    try simp only [Act.put,List.setIfInBounds_toArray,List.set_cons_zero,List.set_cons_succ]
    refine wpAnyH_take (i:=1) (oi:=⟨_,_,_,_,_,_⟩) (v:=?_) rfl (by kernel_rfl) (by kernel_rfl) (by kernel_rfl) (fun _ _ _ h => h) (Or.inl ⟨by rfl,?_⟩) (by assumption) ?_
    rotate_left
    ·intro w hSw
     (try dsimp only at hSw)
     go_split_ands
     go_simp
     try with_reducible rfl
    try simp only [Act.put,List.setIfInBounds_toArray,List.set_cons_zero,List.set_cons_succ]
    refine wpAnyH_take (i:=2) (oi:=⟨_,_,_,_,_,_⟩) (v:=?_) rfl (by kernel_rfl) (by kernel_rfl) (by kernel_rfl) (fun _ _ _ h => h) (Or.inl ⟨by rfl,?_⟩) (by assumption) ?_
    rotate_left
    ·intro w hSw
     (try dsimp only at hSw)
     go_split_ands
     go_simp
     try with_reducible rfl
    try simp only [Act.put,List.setIfInBounds_toArray,List.set_cons_zero,List.set_cons_succ]
    refine wpAnyH_take (i:=3) (oi:=⟨_,_,_,_,_,_⟩) (v:=?_) rfl (by kernel_rfl) (by kernel_rfl) (by kernel_rfl) (fun _ _ _ h => h) (Or.inl ⟨by rfl,?_⟩) (by assumption) ?_
    rotate_left
    ·intro w hSw
     (try dsimp only at hSw)
     go_split_ands
     go_simp
     try with_reducible rfl
    try simp only [Act.put,List.setIfInBounds_toArray,List.set_cons_zero,List.set_cons_succ]
    refine wpAnyH_take (i:=4) (oi:=⟨_,_,_,_,_,_⟩) (v:=?_) rfl (by kernel_rfl) (by kernel_rfl) (by kernel_rfl) (fun _ _ _ h => h) (Or.inl ⟨by rfl,?_⟩) (by assumption) ?_
    rotate_left
    ·intro w hSw
     (try dsimp only at hSw)
     go_split_ands
     go_simp
     try with_reducible rfl
    try simp only [Act.put,List.setIfInBounds_toArray,List.set_cons_zero,List.set_cons_succ]
    refine wpAnyH_take (i:=5) (oi:=⟨_,_,_,_,_,_⟩) (v:=?_) rfl (by kernel_rfl) (by kernel_rfl) (by kernel_rfl) (fun _ _ _ h => h) (Or.inl ⟨by rfl,?_⟩) (by assumption) ?_
    rotate_left
    ·intro w hSw
     (try dsimp only at hSw)
     go_split_ands
     go_simp
     try with_reducible rfl
    try simp only [Act.put,List.setIfInBounds_toArray,List.set_cons_zero,List.set_cons_succ]
    refine wpAnyH_take (i:=6) (oi:=⟨_,_,_,_,_,_⟩) (v:=?_) rfl (by kernel_rfl) (by kernel_rfl) (by kernel_rfl) (fun _ _ _ h => h) (Or.inl ⟨by rfl,?_⟩) (by assumption) ?_
    rotate_left
    ·intro w hSw
     (try dsimp only at hSw)
     go_split_ands
     go_simp
     try with_reducible rfl
    try simp only [Act.put,List.setIfInBounds_toArray,List.set_cons_zero,List.set_cons_succ]
    refine wpAnyH_take (i:=7) (oi:=⟨_,_,_,_,_,_⟩) (v:=?_) rfl (by kernel_rfl) (by kernel_rfl) (by kernel_rfl) (fun _ _ _ h => h) (Or.inl ⟨by rfl,?_⟩) (by assumption) ?_
    rotate_left
    ·intro w hSw
     (try dsimp only at hSw)
     go_split_ands
     go_simp
     try with_reducible rfl
    try simp only [Act.put,List.setIfInBounds_toArray,List.set_cons_zero,List.set_cons_succ]
    refine wpAnyH_take (i:=8) (oi:=⟨_,_,_,_,_,_⟩) (v:=?_) rfl (by kernel_rfl) (by kernel_rfl) (by kernel_rfl) (fun _ _ _ h => h) (Or.inl ⟨by rfl,?_⟩) (by assumption) ?_
    rotate_left
    ·intro w hSw
     (try dsimp only at hSw)
     go_split_ands
     go_simp
     try with_reducible rfl
    try simp only [Act.put,List.setIfInBounds_toArray,List.set_cons_zero,List.set_cons_succ]
    refine wpAnyH_take (i:=9) (oi:=⟨_,_,_,_,_,_⟩) (v:=?_) rfl (by kernel_rfl) (by kernel_rfl) (by kernel_rfl) (fun _ _ _ h => h) (Or.inl ⟨by rfl,?_⟩) (by assumption) ?_
    rotate_left
    ·intro w hSw
     (try dsimp only at hSw)
     go_split_ands
     go_simp
     try with_reducible rfl
    try simp only [Act.put,List.setIfInBounds_toArray,List.set_cons_zero,List.set_cons_succ]
    refine wpAnyH_take (i:=10) (oi:=⟨_,_,_,_,_,_⟩) (v:=?_) rfl (by kernel_rfl) (by kernel_rfl) (by kernel_rfl) (fun _ _ _ h => h) (Or.inl ⟨by rfl,?_⟩) (by assumption) ?_
    rotate_left
    ·intro w hSw
     (try dsimp only at hSw)
     go_split_ands
     go_simp
     try with_reducible rfl
    try simp only [Act.put,List.setIfInBounds_toArray,List.set_cons_zero,List.set_cons_succ]
    refine wpAnyH_take (i:=11) (oi:=⟨_,_,_,_,_,_⟩) (v:=?_) rfl (by kernel_rfl) (by kernel_rfl) (by kernel_rfl) (fun _ _ _ h => h) (Or.inl ⟨by rfl,?_⟩) (by assumption) ?_
    rotate_left
    ·intro w hSw
     (try dsimp only at hSw)
     go_split_ands
     go_simp
     try with_reducible rfl
    try simp only [Act.put,List.setIfInBounds_toArray,List.set_cons_zero,List.set_cons_succ]
    refine wpAnyH_take (i:=12) (oi:=⟨_,_,_,_,_,_⟩) (v:=?_) rfl (by kernel_rfl) (by kernel_rfl) (by kernel_rfl) (fun _ _ _ h => h) (Or.inl ⟨by rfl,?_⟩) (by assumption) ?_
    rotate_left
    ·intro w hSw
     (try dsimp only at hSw)
     go_split_ands
     go_simp
     try with_reducible rfl
    try simp only [Act.put,List.setIfInBounds_toArray,List.set_cons_zero,List.set_cons_succ]
    refine wpAnyH_take (i:=13) (oi:=⟨_,_,_,_,_,_⟩) (v:=?_) rfl (by kernel_rfl) (by kernel_rfl) (by kernel_rfl) (fun _ _ _ h => h) (Or.inl ⟨by rfl,?_⟩) (by assumption) ?_
    rotate_left
    ·intro w hSw
     (try dsimp only at hSw)
     go_split_ands
     go_simp
     try with_reducible rfl
    try simp only [Act.put,List.setIfInBounds_toArray,List.set_cons_zero,List.set_cons_succ]
    refine wpAnyH_take (i:=14) (oi:=⟨_,_,_,_,_,_⟩) (v:=?_) rfl (by kernel_rfl) (by kernel_rfl) (by kernel_rfl) (fun _ _ _ h => h) (Or.inl ⟨by rfl,?_⟩) (by assumption) ?_
    rotate_left
    ·intro w hSw
     (try dsimp only at hSw)
     go_split_ands
     go_simp
     try with_reducible rfl
    try simp only [Act.put,List.setIfInBounds_toArray,List.set_cons_zero,List.set_cons_succ]
    try rw [hsum]
    refine wpAnyH_take (i:=15) (oi:=⟨_,_,_,_,_,_⟩) (v:=?_) rfl (by kernel_rfl) (by kernel_rfl) (by kernel_rfl) (fun _ _ _ h => h) (Or.inl ⟨by rfl,?_⟩) (by assumption) ?_
    rotate_left
    ·intro w hSw
     (try dsimp only at hSw)
     go_split_ands
     go_simp
     try with_reducible rfl
    try simp only [Act.put,List.setIfInBounds_toArray,List.set_cons_zero,List.set_cons_succ]
    refine wpAnyH_ready (rs:=[16]) (by kernel_rfl) (by simp) (AllReadyH.cons (o:=⟨_,_,_,_,_,_⟩) rfl (fun K hK => ?_) AllReadyH.nil)
    refine wp_append_own _ (.tmp 60) (.tmp 75) _ rfl w.heap.size 5 i0 (.int .u8 0) 1 1 Tryz.underlying38 hi hz0 hz1 hz2 rfl (by decide) (.slice Ao no co) no (bs8 acc) rfl HR3.out.drew.own ⟨g,off + k4,none⟩ (e5 - k4) (c - k4) (bs8 (encodeRune z)) rfl (by rw [bs8_length,HNL.out]; omega) HNW.out bs8One7 (by unfold maxLen; omega) (by omega) hsz4 (fun v' w5 hown5 hg5 _ => ?_)
    obtain ⟨A5,c5,e6,hr5⟩:=RowV.of_row (by rw [List.length_append,HR3.out.len,bs8_length,HNL.out]; omega) hown5
    subst e6
    have hE3d : REnv B L (some ⟨g,off,none⟩) c rb w3.drew k4:=HE3.out.stay (C:=fun _ => False) (But.refl _ _).drew (fun k h => h.elim)
    have hE5:=hE3d.grown hg5 HR3.out.least hrl
    have hb5:=grown_but (HB4.out.drew) hg5 HR3.out.least
    obtain ⟨p0,p1,p2⟩:=hE5.cells
    have f1:=hE5.frozen 1
    refine hK.out _ _ ⟨p0,p1⟩ (fun hHeld2 => ?_)
    clear hK K hHeld hown5 hg5
    try simp only [Act.put,List.setIfInBounds_toArray,List.set_cons_zero,List.set_cons_succ]
    refine wpAnyH_take (i:=17) (oi:=⟨_,_,_,_,_,_⟩) (v:=?_) rfl (by kernel_rfl) (by kernel_rfl) (by kernel_rfl) (fun _ _ _ h => h) (Or.inl ⟨by rfl,?_⟩) (by assumption) ?_
    rotate_left
    ·intro w hSw
     (try dsimp only at hSw)
     go_split_ands
     go_simp
     try with_reducible rfl
    try simp only [Act.put,List.setIfInBounds_toArray,List.set_cons_zero,List.set_cons_succ]
    refine wpAnyH_done (by kernel_rfl) ?_ _
    have hE6:=hE5.to (q:=e5) (by omega)
    have hb6 : But (fun k => k = rb) w5 (w5.setCell ⟨rb,1,none⟩ (.int .i64 (e5 : Int))):=But.setCell (C:=fun k => k = rb) (p:=⟨rb,1,none⟩) (But.refl _ _) (.inl rfl) _
    have hr6 : RowV (w5.setCell ⟨rb,1,none⟩ (.int .i64 (e5 : Int))) w.heap.size 5 A5 (no + (e5 - k4)) c5 (bs8 acc ++ bs8 (encodeRune z)):=hr5.keep (fun g hg => by
     rcases hr5.form with ⟨h,-⟩ | ⟨g2,h,hg4,hl⟩
     ·rw [h] at hg; cases hg
     ·rw [h] at hg; injection hg with hg; injection hg with hg; subst hg; exact hb6.block _ hl (fun h => by omega))
    have HE6:=Lib.hid hE6
    have HB6:=Lib.hid (hb5.trans hb6)
    have HR6:=Lib.hid hr6
    clear hE6 hb6 hr6 hr5 hb5 hE3d hE5 HE3 HB4 HR3 HNW d0 d1 d2
    go_wp2_with fail
    go_roundw
    case rel =>
     refine ⟨m',e5,no + (e5 - k4),c5,acc ++ encodeRune z,A5,rfl,?_,?_,?_,HE6.out,HB6.out⟩
     ·show RowV _ _ _ _ _ _ _
      rw [bs8_app]; exact HR6.out
     ·show _ = _
      rw [← he5,← hN]; exact H4.out
     ·show _ ≤ _
      rw [List.length_append,HNL.out]
      omega
    case measure => rw [HE6.out.at_of,hat]; omega
end Go.Proofs.YtkigpbkkhgabeaaGreatDoor
