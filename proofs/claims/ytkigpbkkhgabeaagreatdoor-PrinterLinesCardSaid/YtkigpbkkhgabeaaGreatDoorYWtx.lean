import Derived.Test.YtkigpbkkhgabeaaGreatDoorYWes
import Derived.Test.YtkigpbkkhgabeaaGreatDoorYWeh
import Derived.Deep.RegionHeld3
set_option linter.unusedVariables false
set_option linter.unusedSimpArgs false
namespace Go.Proofs.YtkigpbkkhgabeaaGreatDoor
open Go.RowKit Go.Lib
structure Gl (B : Nat) (w : World) : Prop where
 tabs : Tabs w
 ten : Tab10 w
 deb : w.cell? ⟨5,15,none⟩ = some (.int .u8 4)
 lt : 0 < B ∧ 1 < B ∧ 3 < B ∧ 5 < B
theorem ten_low {w w' : World} (h : Tab10 w) (hb : w'.heap[(3 : Nat)]? = w.heap[(3 : Nat)]?) : Tab10 w':=by
 unfold Tab10 Lib.TabIs World.var? at h ⊢
 rw [pow_global] at h ⊢
 simp only [Option.bind_some] at h ⊢
 rw [hb]
 exact h
theorem Gl.low {B : Nat} {w w' : World} (h : Gl B w) (hb : Below B w w') : Gl B w' :=
 ⟨h.tabs.same (hb.block _ h.lt.1) (hb.block _ h.lt.2.1),ten_low h.ten (hb.block _ h.lt.2.2.1),(hb.cell (p:=⟨5,15,none⟩) h.lt.2.2.2).trans h.deb,h.lt⟩
abbrev plainF : Value:=.func (.func 24) #[] #[]
abbrev asciiF : Value:=.func (.func 27) #[] #[]
def standA (c : Int) : Bool:=plainB c && decide (c ≤ 127)
set_option maxRecDepth 100000 in
theorem ascii1_c (c : Int) (w : World) (h0 : 0 ≤ c) (h1 : c ≤ 1114111) : Calls Tryz.prog 27 #[.int .i32 c] w fun e w' => e = .returned (.bool (standA c)) ∧ w = w':=by
 unfold standA
 have hp:=isPlain_c c w h0 h1
 cases hb : plainB c
 ·rw [hb] at hp
  go_enter Tryz.func27,Tryz.ntmps27
  go_wp2_with fail
  refine hp.mono ?_
  rintro e w1 ⟨rfl,rfl⟩
  go_wp2_with fail
  go_ret
  exact ⟨rfl,rfl⟩
 ·rw [hb] at hp
  go_enter Tryz.func27,Tryz.ntmps27
  go_wp2_with fail
  refine hp.mono ?_
  rintro e w1 ⟨rfl,rfl⟩
  go_wp2_with fail
  all_goals
   go_ret
   refine ⟨?_,rfl⟩
   simp_all
theorem plain_enc {c : Int} (h : plainB c = true) : quoteC c = encodeRune c:=by
 unfold plainB at h
 simp at h
 unfold quoteC
 rw [if_neg (by omega),if_neg (by omega),if_neg (by omega),if_neg (by omega),if_neg (by omega),if_neg (by omega),if_neg (by omega),if_neg (by omega)]
theorem standA_enc {c : Int} (h : standA c = true) : quoteA c = encodeRune c:=by
 unfold standA at h
 simp at h
 unfold quoteA
 rw [if_pos (by omega)]
 exact plain_enc h.1
theorem escPlain_c (c : Int) (hc : isCh c) (h : plainB c = false) (w : World) (ht : w.cell? ⟨5,15,none⟩ = some (.int .u8 4)) :
  Calls Tryz.prog 56 #[.int .i32 c] w fun e w' => e = .returned (.string ⟨(quoteC c).toArray⟩) ∧ Below w.heap.size w w':=by
 have h2:=h
 unfold plainB at h2
 simp at h2
 exact escLow_c c (by unfold isCh at hc; omega) h (by omega) w ht
theorem escAscii_c (c : Int) (hc : isCh c) (h : standA c = false) (w : World) (ht : w.cell? ⟨5,15,none⟩ = some (.int .u8 4)) :
  Calls Tryz.prog 56 #[.int .i32 c] w fun e w' => e = .returned (.string ⟨(quoteA c).toArray⟩) ∧ Below w.heap.size w w':=by
 by_cases h1 : 128 ≤ c
 ·exact escHigh_c c hc h1 w ht
 ·have hp : plainB c = false:=by
   unfold standA at h
   rw [Bool.and_eq_false_iff,decide_eq_false_iff_not] at h
   exact h.resolve_right (by omega)
  have hq : quoteA c = quoteC c:=by unfold quoteA; rw [if_pos (by omega)]
  rw [hq]
  exact escLow_c c (by unfold isCh at hc; omega) hp (by omega) w ht
theorem runeLen_enc {c : Int} (h : isCh c) : Lib.runeLen c = ((encodeRune c).length : Int):=by
 unfold isCh at h
 unfold Lib.runeLen encodeRune
 rw [List.length_map]
 unfold encodeRuneZ
 repeat' split
 all_goals first | rfl | omega | (simp at *; omega)
theorem ext_bytes (s : ByteArray) (a b : Nat) : (s.extract a b).data.toList = (s.data.toList.drop a).take (b - a):=by
 rw [ByteArray.data_extract,Array.toList_extract]
theorem cut_enc {L a b c : List UInt8} (h : L = a ++ (b ++ c)) : (L.drop a.length).take ((a ++ b).length - a.length) = b:=by
 rw [h,List.drop_left,List.length_append,show a.length + b.length - a.length = b.length by omega,List.take_left]
theorem qL_app (qc : Int → List UInt8) (a b : List Int) : qL qc (a ++ b) = qL qc a ++ qL qc b:=by unfold qL; rw [List.flatMap_append]
theorem enc_app (a b : List Int) : enc (a ++ b) = enc a ++ enc b:=by unfold enc; rw [List.flatMap_append]
theorem qL_enc {qc : Int → List UInt8} {l : List Int} (h : ∀ c ∈ l,qc c = encodeRune c) : qL qc l = enc l:=flat_same _ _ l h
theorem Soft.iterAt {B pb : Nat} {w wr : World} (h : Soft B pb w wr) {it : Nat} (hk : w.heap.size ≤ it) (s : ByteArray) (p : Nat) : Soft B pb w (wr.iterAt it s p) :=
 ⟨h.os,h.tape,h.output,by rw [Lib.iterAt_size]; exact h.size,fun k hkk hp hc => by rw [Lib.iterAt_other wr it k s p (by omega)]; exact h.block k hkk hp hc⟩
theorem Pg.iterAt {B pb : Nat} {bs : List UInt8} {room st o : Nat} {F : Value} {w : World} (h : Pg B pb bs room st o F w) {it : Nat} {s : ByteArray} {p0 : Nat} (hk : w.heap[it]? = some (.stringIter s p0)) (p : Nat) : Pg B pb bs room st o F (w.iterAt it s p) :=
 h.stay (C:=fun k => k = it) ⟨rfl,rfl,rfl,by rw [Lib.iterAt_size]; exact Nat.le_refl _,fun k _ hc => Lib.iterAt_other w it k s p hc⟩ (fun k hc vs t fr hv => by subst hc; rw [hk] at hv; cases hv)
theorem Pg.drw {B pb : Nat} {bs : List UInt8} {room st o : Nat} {F : Value} {w : World} (h : Pg B pb bs room st o F w) : Pg B pb bs room st o F w.drew:=h.stay0 ((But.refl _ _).drew)
theorem Soft.drw {B pb : Nat} {w wr : World} (h : Soft B pb w wr) : Soft B pb w wr.drew:=⟨h.os,h.tape,h.output,h.size,h.block⟩
theorem Soft.iter {B pb it p0 : Nat} {s : ByteArray} {w w' : World} (h : Soft B pb w w') (hk : w.heap[it]? = some (.stringIter s p0)) (hp : it ≠ pb) : w'.heap[it]? = some (.stringIter s p0):=by
 rw [h.block it (Array.getElem?_eq_some_iff.1 hk).1 hp (.inr fun vs fr e => by rw [hk] at e; cases e),hk]
set_option maxRecDepth 100000 in
set_option maxHeartbeats 4000000 in
theorem textP_c {B pb : Nat} {bs : List UInt8} {room st o : Nat} (w : World) (hP : Pg B pb bs room st o plainF w) (hG : Gl B w) (hB : B ≤ w.heap.size) (s : ByteArray) (hT : isT s.data.toList = true) (hs : s.size ≤ 140737488355328)
  (hcap : bs.length + (txtL quoteC s).length ≤ 140737488355328 ∨ bs.length + room ≤ 140737488355328) :
  Calls Tryz.prog 37 #[pgP pb,.string s] w (Wr B pb bs room st o plainF w (txtL quoteC s)):=by
 obtain ⟨L,hL⟩ : ∃ L,s.data.toList = L:=⟨_,rfl⟩
 have hsz : s.size = L.length:=by rw [← hL,Array.length_toList]; rfl
 obtain ⟨cs,hcs⟩ : ∃ cs,(pcs L).map (·.2) = cs:=⟨_,rfl⟩
 rw [hL] at hT
 obtain ⟨henc,hch⟩:=charsT hT
 rw [hcs] at henc hch
 have htx : txtL quoteC s = 34 :: (qL quoteC cs ++ [34]):=by unfold txtL; rw [hL,hcs]
 rw [htx] at hcap ⊢
 obtain ⟨T,hTT⟩ : ∃ T,34 :: (qL quoteC cs ++ [34]) = T:=⟨_,rfl⟩
 rw [hTT] at hcap ⊢
 have hTl : T.length = (qL quoteC cs).length + 2:=by rw [← hTT]; simp
 have hpl:=hP.lt
 have HP:=Lib.hid hP
 have HG:=Lib.hid hG
 have HENC:=Lib.hid henc
 have HCH:=Lib.hid hch
 have HTT:=Lib.hid hTT
 have HL:=Lib.hid hL
 have HB:=Lib.hid hB
 have HCAP:=Lib.hid hcap
 have HTL:=Lib.hid hTl
 have HSZ:=Lib.hid hsz
 clear hP hG henc hch hTT hL hcs htx hT hB hcap hTl hsz
 go_enter Tryz.func37,Tryz.ntmps37
 go_wp2_with fail
 refine (putL_c w HP.out ⟨#[34]⟩ [34] rfl (by rw [List.length_singleton]; have:=HCAP.out; have:=HTL.out; omega) HB.out).mono ?_
 rintro e w1 (⟨hr1,rfl,hP1,hS1⟩ | ⟨hr1,rfl,hS1⟩)
 case inr =>
  go_wp2_with fail
  exact ⟨rfl,Wr.no (by rw [List.length_singleton] at hr1; have:=HTL.out; omega) hS1⟩
 rw [List.length_singleton] at hr1 hP1
 obtain ⟨it,hit⟩ : ∃ it,w1.heap.size = it:=⟨_,rfl⟩
 have hwit : w.heap.size ≤ it:=by rw [← hit]; exact hS1.size
 have hpit : it ≠ pb:=by omega
 have HP1:=Lib.hid hP1
 have HS1:=Lib.hid hS1
 have HIT:=Lib.hid hit
 clear hP1 hS1
 go_wp2_with fail
 try rw [hit]
 clear hit
 go_loopw [4] (fun from_ wr => ∃ pre1 pre2 rest : List Int,from_ = .int .i64 ((enc pre1).length : Int) ∧ Hid (cs = pre1 ++ (pre2 ++ rest)) ∧ Hid (∀ c ∈ pre2,quoteC c = encodeRune c) ∧ Hid (wr.heap[it]? = some (.stringIter s (enc (pre1 ++ pre2)).length)) ∧ Hid ((34 :: qL quoteC pre1).length ≤ room) ∧ Hid (Pg B pb (bs ++ (34 :: qL quoteC pre1)) (room - (34 :: qL quoteC pre1).length) st o plainF wr) ∧ Hid (Soft B pb w wr)) (fun _ wr => s.size - wr.iterPos it)
 case atStart =>
  have hb : But (fun _ => False) w1 (w1.iter s 0):=(But.refl _ _).alloc _
  refine ⟨[],[],cs,rfl,by show _ = _; rfl,fun c hc => absurd hc (by simp),?_,by show _ ≤ _; simpa [qL] using hr1,by show Pg _ _ _ _ _ _ _ _; simpa [qL] using HP1.out.stay0 hb,HS1.out.trans (Soft.of0 hb)⟩
  show _ = _
  have:=World.iter_heap w1 s 0
  rw [HIT.out] at this
  simpa [enc] using this
 case round =>
  obtain ⟨pre1,pre2,rest,rfl,hcsr,hstd,hheap,hroom,hPr,hSr⟩:=hrel
  obtain ⟨o1,ho1⟩ : ∃ o1,34 :: qL quoteC pre1 = o1:=⟨_,rfl⟩
  rw [ho1] at hroom hPr
  have HO1:=Lib.hid ho1
  clear ho1
  have hLd : L = enc pre1 ++ (enc pre2 ++ enc rest):=by rw [← HENC.out,hcsr.out,enc_app,enc_app]
  have hT1 : T = o1 ++ (qL quoteC pre2 ++ (qL quoteC rest ++ [34])):=by rw [← HTT.out,hcsr.out,qL_app,qL_app,← HO1.out]; simp
  have hTlen : T.length = o1.length + ((qL quoteC pre2).length + ((qL quoteC rest).length + 1)):=by rw [hT1]; simp only [List.length_append,List.length_singleton]
  have hpl2 : (enc (pre1 ++ pre2)).length = (enc pre1).length + (enc pre2).length:=by rw [enc_app,List.length_append]
  have hq2 : qL quoteC pre2 = enc pre2:=qL_enc hstd.out
  obtain ⟨a,ha⟩ : ∃ a,(enc pre1).length = a:=⟨_,rfl⟩
  obtain ⟨p,hp⟩ : ∃ p,(enc (pre1 ++ pre2)).length = p:=⟨_,rfl⟩
  have hap : a ≤ p:=by omega
  have hpL : p ≤ L.length:=by rw [← hp,hLd,hpl2]; simp only [List.length_append]; omega
  have hmp : wr.iterPos it = p:=by simp [World.iterPos,hheap.out,hp]
  have hcut : (s.extract a p).data.toList = qL quoteC pre2:=by
   rw [ext_bytes,HL.out,← ha,← hp,enc_app,cut_enc hLd,hq2]
  have hcsz : (s.extract a p).size = (qL quoteC pre2).length:=by rw [← hcut,Array.length_toList]; rfl
  rw [ha]
  rw [hp] at hheap
  have HCUT:=Lib.hid hcut
  have HCSZ:=Lib.hid hcsz
  have HT1:=Lib.hid hT1
  have HTLEN:=Lib.hid hTlen
  have HLD:=Lib.hid hLd
  have HPA:=Lib.hid ha
  have HPP:=Lib.hid hp
  have HPL2:=Lib.hid hpl2
  clear hcut hcsz hT1 hTlen hLd ha hp hpl2 hq2
  have hBr : B ≤ wr.heap.size:=Nat.le_trans HB.out hSr.out.size
  cases rest with
  | nil =>
   have hpe : p = s.size:=by
    have h1:=HLD.out
    rw [HSZ.out,h1,← HPP.out,HPL2.out]
    simp [enc]
   have hnx : ∀ ty,(Instr.next (.pointer (some ⟨it,0,none⟩)) true ty).run Tryz.prog wr = _:=fun ty => Lib.run_next_end_at wr it s p ty hheap.out (by omega)
   have hae : (a : Int) ≤ (s.size : Int):=by omega
   have hsle : ¬ (s.size : Int) < (a : Int):=by omega
   subst hpe
   go_upto_region 9 with fail
   refine wp_region_held_drew (S:=fun _ => True) (by kernel_rfl) trivial (fun hHeld => ?_)
   (try simp only [List.size_toArray,List.length_cons,List.length_nil,Nat.reduceAdd,Array.replicate_succ,Array.replicate_zero,List.push_toArray,List.append_toArray,List.nil_append,List.cons_append])
   refine wpAnyH_take (i:=0) (oi:=⟨_,_,_,_,_,_⟩) (v:=?_) rfl (by kernel_rfl) (by kernel_rfl) (by kernel_rfl) (fun _ _ _ h => h) (Or.inl ⟨by rfl,?_⟩) (by assumption) ?_
   rotate_left
   ·intro w hSw
    (try dsimp only at hSw)
    go_split_ands
    go_simp
    try with_reducible rfl
   try simp only [Act.put,List.setIfInBounds_toArray,List.set_cons_zero,List.set_cons_succ]
   refine wpAnyH_take (i:=1) (oi:=⟨_,_,_,_,_,_⟩) (v:=?_) rfl (by kernel_rfl) (by kernel_rfl) (by kernel_rfl) (fun _ _ _ h => h) (Or.inl ⟨by rfl,?_⟩) (by assumption) ?_
   rotate_left
   ·intro w hSw
    (try dsimp only at hSw)
    go_split_ands
    go_simp
    try with_reducible rfl
   try simp only [Act.put,List.setIfInBounds_toArray,List.set_cons_zero,List.set_cons_succ]
   refine wpAnyH_take (i:=2) (oi:=⟨_,_,_,_,_,_⟩) (v:=?_) rfl (by kernel_rfl) (by kernel_rfl) (by kernel_rfl) (fun _ _ _ h => h) (Or.inl ⟨by rfl,?_⟩) (by assumption) ?_
   rotate_left
   ·intro w hSw
    (try dsimp only at hSw)
    go_split_ands
    go_simp
    try with_reducible rfl
   try simp only [Act.put,List.setIfInBounds_toArray,List.set_cons_zero,List.set_cons_succ]
   refine wpAnyH_take (i:=3) (oi:=⟨_,_,_,_,_,_⟩) (v:=?_) rfl (by kernel_rfl) (by kernel_rfl) (by kernel_rfl) (fun _ _ _ h => h) (Or.inl ⟨by rfl,?_⟩) (by assumption) ?_
   rotate_left
   ·intro w hSw
    (try dsimp only at hSw)
    go_split_ands
    go_simp
    try with_reducible rfl
   try simp only [Act.put,List.setIfInBounds_toArray,List.set_cons_zero,List.set_cons_succ]
   refine wpAnyH_take (i:=4) (oi:=⟨_,_,_,_,_,_⟩) (v:=?_) rfl (by kernel_rfl) (by kernel_rfl) (by kernel_rfl) (fun _ _ _ h => h) (Or.inl ⟨by rfl,?_⟩) (by assumption) ?_
   rotate_left
   ·intro w hSw
    (try dsimp only at hSw)
    go_split_ands
    go_simp
    try with_reducible rfl
   try simp only [Act.put,List.setIfInBounds_toArray,List.set_cons_zero,List.set_cons_succ]
   refine wpAnyH_take (i:=5) (oi:=⟨_,_,_,_,_,_⟩) (v:=?_) rfl (by kernel_rfl) (by kernel_rfl) (by kernel_rfl) (fun _ _ _ h => h) (Or.inl ⟨by rfl,?_⟩) (by assumption) ?_
   rotate_left
   ·intro w hSw
    (try dsimp only at hSw)
    go_split_ands
    go_simp
    try with_reducible rfl
   try simp only [Act.put,List.setIfInBounds_toArray,List.set_cons_zero,List.set_cons_succ]
   refine wpAnyH_ready (rs:=[6]) (by kernel_rfl) (by simp) (AllReadyH.cons (o:=⟨_,_,_,_,_,_⟩) rfl (fun K hK => ?_) AllReadyH.nil)
   go_simp
   refine (putL_c _ hPr.out.drw (s.extract a s.size) _ HCUT.out (by rw [List.length_append]; have:=HCAP.out; have:=HTLEN.out; have:=hroom.out; omega) hBr).mono ?_
   rintro e w2 (⟨hr2,rfl,hP2,hS2⟩ | ⟨hr2,rfl,hS2⟩)
   case inr => exact ⟨rfl,Wr.no (by have:=HTLEN.out; have:=hroom.out; omega) (hSr.out.drw.trans hS2)⟩
   (try dsimp only)
   refine hK _ _ trivial (fun hHeld2 => ?_)
   clear hK K hHeld
   try simp only [Act.put,List.setIfInBounds_toArray,List.set_cons_zero,List.set_cons_succ]
   refine wpAnyH_done (by kernel_rfl) ?_ _
   have HP2:=Lib.hid hP2
   have HS2:=Lib.hid (hSr.out.drw.trans hS2)
   clear hP2 hS2 hHeld2 hPr hheap hSr
   go_wp2_with fail
   refine (putL_c w2 HP2.out ⟨#[34]⟩ [34] rfl (by rw [List.length_singleton,List.length_append,List.length_append]; have:=HCAP.out; have:=HTLEN.out; have:=hroom.out; omega) (Nat.le_trans HB.out HS2.out.size)).mono ?_
   rintro e w3 (⟨hr3,rfl,hP3,hS3⟩ | ⟨hr3,rfl,hS3⟩)
   case inr =>
    go_wp2_with fail
    rw [List.length_singleton] at hr3
    exact ⟨rfl,Wr.no (by have:=HTLEN.out; have:=hroom.out; omega) (HS2.out.trans hS3)⟩
   rw [List.length_singleton] at hr3 hP3
   have HP3:=Lib.hid hP3
   have HS3:=Lib.hid (HS2.out.trans hS3)
   clear hP3 hS3
   go_wp2_with fail
   first | go_end0 | refine bodyPost_ret (results_none rfl _ _ _) rfl ?_
   have hT9 : T = o1 ++ (qL quoteC pre2 ++ [34]):=by rw [HT1.out]; rfl
   have hl9 : T.length = o1.length + ((qL quoteC pre2).length + 1):=by rw [HTLEN.out]; rfl
   refine Wr.done (by have:=hroom.out; omega) ?_ HS3.out
   have h:=HP3.out
   rw [List.append_assoc,List.append_assoc,← hT9,show room - o1.length - (qL quoteC pre2).length - 1 = room - T.length by omega] at h
   exact h
  | cons ci rest =>
   have hci : isCh ci:=HCH.out ci (by rw [hcsr.out]; simp)
   obtain ⟨c,rfl⟩ : ∃ c : Nat,ci = (c : Int):=⟨ci.toNat,by unfold isCh at hci; omega⟩
   obtain ⟨k,hk⟩ : ∃ k,(encodeRune (c : Int)).length = k:=⟨_,rfl⟩
   have hdec : Utf8.decode s p = (c,k):=by
    rw [← decodeL_drop,HL.out,HLD.out,← HPP.out,enc_app,← List.append_assoc,List.drop_left,enc_cons,decode_enc hci,hk]
    rfl
   have hpk : p + k ≤ s.size:=by
    have h1:=HLD.out
    rw [HSZ.out,h1,← HPP.out,HPL2.out,enc_cons]
    simp only [List.length_append,hk]
    omega
   have hk1 : 1 ≤ k:=by
    rw [← hk]
    rcases Nat.eq_zero_or_pos (encodeRune (c : Int)).length with h | h
    ·exact absurd (by rw [List.append_nil]; exact List.eq_nil_of_length_eq_zero h) (enc_ne (c : Int) [])
    ·exact h
   have hlt : p < s.size:=by omega
   have hnx : ∀ ty,(Instr.next (.pointer (some ⟨it,0,none⟩)) true ty).run Tryz.prog wr = _:=fun ty => Lib.run_next_any_at wr it s p ty hheap.out hlt
   rw [hdec] at hnx
   have hP2:=hPr.out.iterAt hheap.out (p + k)
   have hS2:=hSr.out.iterAt hwit s (p + k)
   have hit2:=Lib.iterAt_heap wr it s p (p + k) hheap.out
   have hsz2 : B ≤ (wr.iterAt it s (p + k)).heap.size:=by rw [Lib.iterAt_size]; exact hBr
   obtain ⟨w2,hw2⟩ : ∃ w2,wr.iterAt it s (p + k) = w2:=⟨_,rfl⟩
   have hw2n : ∀ ty,(Instr.next (.pointer (some ⟨it,0,none⟩)) true ty).run Tryz.prog wr = .ok (.tuple #[.bool true,.int .i64 (p : Int),.int .i32 (c : Int)]) w2:=fun ty => by rw [hnx ty,hw2]
   rw [hw2] at hP2 hS2 hit2 hsz2
   clear hnx hw2
   obtain ⟨-,-,-,c5⟩:=hP2.cells
   have HP2:=Lib.hid hP2
   have HS2:=Lib.hid hS2
   have HIT2:=Lib.hid hit2
   have HK:=Lib.hid hk
   have HCI:=Lib.hid hci
   clear hP2 hS2 hit2 hdec hk hPr hSr
   go_wp2_with fail
   refine (isPlain_c (c : Int) w2 (by omega) (by have:=HCI.out; unfold isCh at this; omega)).mono ?_
   rintro e w3 ⟨rfl,rfl⟩
   cases hst : plainB (c : Int)
   ·have hps : p ≤ s.size:=by omega
    go_upto_region 6 with fail
    refine wp_region_held_drew (S:=fun _ => True) (by kernel_rfl) trivial (fun hHeld => ?_)
    (try simp only [List.size_toArray,List.length_cons,List.length_nil,Nat.reduceAdd,Array.replicate_succ,Array.replicate_zero,List.push_toArray,List.append_toArray,List.nil_append,List.cons_append])
    refine wpAnyH_take (i:=0) (oi:=⟨_,_,_,_,_,_⟩) (v:=?_) rfl (by kernel_rfl) (by kernel_rfl) (by kernel_rfl) (fun _ _ _ h => h) (Or.inl ⟨by rfl,?_⟩) (by assumption) ?_
    rotate_left
    ·intro w hSw
     (try dsimp only at hSw)
     go_split_ands
     go_simp
     try with_reducible rfl
    try simp only [Act.put,List.setIfInBounds_toArray,List.set_cons_zero,List.set_cons_succ]
    refine wpAnyH_take (i:=1) (oi:=⟨_,_,_,_,_,_⟩) (v:=?_) rfl (by kernel_rfl) (by kernel_rfl) (by kernel_rfl) (fun _ _ _ h => h) (Or.inl ⟨by rfl,?_⟩) (by assumption) ?_
    rotate_left
    ·intro w hSw
     (try dsimp only at hSw)
     go_split_ands
     go_simp
     try with_reducible rfl
    try simp only [Act.put,List.setIfInBounds_toArray,List.set_cons_zero,List.set_cons_succ]
    refine wpAnyH_take (i:=2) (oi:=⟨_,_,_,_,_,_⟩) (v:=?_) rfl (by kernel_rfl) (by kernel_rfl) (by kernel_rfl) (fun _ _ _ h => h) (Or.inl ⟨by rfl,?_⟩) (by assumption) ?_
    rotate_left
    ·intro w hSw
     (try dsimp only at hSw)
     go_split_ands
     go_simp
     try with_reducible rfl
    try simp only [Act.put,List.setIfInBounds_toArray,List.set_cons_zero,List.set_cons_succ]
    refine wpAnyH_take (i:=3) (oi:=⟨_,_,_,_,_,_⟩) (v:=?_) rfl (by kernel_rfl) (by kernel_rfl) (by kernel_rfl) (fun _ _ _ h => h) (Or.inl ⟨by rfl,?_⟩) (by assumption) ?_
    rotate_left
    ·intro w hSw
     (try dsimp only at hSw)
     go_split_ands
     go_simp
     try with_reducible rfl
    try simp only [Act.put,List.setIfInBounds_toArray,List.set_cons_zero,List.set_cons_succ]
    refine wpAnyH_take (i:=4) (oi:=⟨_,_,_,_,_,_⟩) (v:=?_) rfl (by kernel_rfl) (by kernel_rfl) (by kernel_rfl) (fun _ _ _ h => h) (Or.inl ⟨by rfl,?_⟩) (by assumption) ?_
    rotate_left
    ·intro w hSw
     (try dsimp only at hSw)
     go_split_ands
     go_simp
     try with_reducible rfl
    try simp only [Act.put,List.setIfInBounds_toArray,List.set_cons_zero,List.set_cons_succ]
    refine wpAnyH_take (i:=5) (oi:=⟨_,_,_,_,_,_⟩) (v:=?_) rfl (by kernel_rfl) (by kernel_rfl) (by kernel_rfl) (fun _ _ _ h => h) (Or.inl ⟨by rfl,?_⟩) (by assumption) ?_
    rotate_left
    ·intro w hSw
     (try dsimp only at hSw)
     go_split_ands
     go_simp
     try with_reducible rfl
    try simp only [Act.put,List.setIfInBounds_toArray,List.set_cons_zero,List.set_cons_succ]
    refine wpAnyH_take (i:=6) (oi:=⟨_,_,_,_,_,_⟩) (v:=?_) rfl (by kernel_rfl) (by kernel_rfl) (by kernel_rfl) (fun _ _ _ h => h) (Or.inl ⟨by rfl,?_⟩) (by assumption) ?_
    rotate_left
    ·intro w hSw
     (try dsimp only at hSw)
     go_split_ands
     go_simp
     try with_reducible rfl
    try simp only [Act.put,List.setIfInBounds_toArray,List.set_cons_zero,List.set_cons_succ]
    refine wpAnyH_ready (rs:=[7]) (by kernel_rfl) (by simp) (AllReadyH.cons (o:=⟨_,_,_,_,_,_⟩) rfl (fun K hK => ?_) AllReadyH.nil)
    go_simp
    refine (putL_c _ HP2.out.drw (s.extract a p) _ HCUT.out (by rw [List.length_append]; have:=HCAP.out; have:=HTLEN.out; have:=hroom.out; omega) hsz2).mono ?_
    rintro e w3 (⟨hr3,rfl,hP3,hS3⟩ | ⟨hr3,rfl,hS3⟩)
    case inr => exact ⟨rfl,Wr.no (by have:=HTLEN.out; have:=hroom.out; omega) (HS2.out.drw.trans hS3)⟩
    (try dsimp only)
    refine hK _ _ trivial (fun hHeld2 => ?_)
    clear hK K hHeld
    try simp only [Act.put,List.setIfInBounds_toArray,List.set_cons_zero,List.set_cons_succ]
    refine wpAnyH_done (by kernel_rfl) ?_ _
    have hit3:=hS3.iter (w:=w2.drew) HIT2.out hpit
    have hsz3 : B ≤ w3.heap.size:=Nat.le_trans hsz2 hS3.size
    have hG3 : Gl B w3:=HG.out.low ((HS2.out.drw.trans hS3).below HB.out HP.out.base)
    have HP3:=Lib.hid hP3
    have HS3:=Lib.hid (HS2.out.drw.trans hS3)
    have HIT3:=Lib.hid hit3
    have HG3:=Lib.hid hG3
    clear hP3 hS3 hHeld2 hit3 hG3 c5
    have hqcl : (qL quoteC ((c : Int) :: rest)).length = (quoteC (c : Int)).length + (qL quoteC rest).length:=by rw [qL_cons,List.length_append]
    have HQCL:=Lib.hid hqcl
    clear hqcl
    go_upto_region 7 with fail
    refine wp_region_held_drew (S:=fun _ => True) (by kernel_rfl) trivial (fun hHeld => ?_)
    (try simp only [List.size_toArray,List.length_cons,List.length_nil,Nat.reduceAdd,Array.replicate_succ,Array.replicate_zero,List.push_toArray,List.append_toArray,List.nil_append,List.cons_append])
    refine wpAnyH_take (i:=0) (oi:=⟨_,_,_,_,_,_⟩) (v:=?_) rfl (by kernel_rfl) (by kernel_rfl) (by kernel_rfl) (fun _ _ _ h => h) (Or.inl ⟨by rfl,?_⟩) (by assumption) ?_
    rotate_left
    ·intro w hSw
     (try dsimp only at hSw)
     go_split_ands
     go_simp
     try with_reducible rfl
    try simp only [Act.put,List.setIfInBounds_toArray,List.set_cons_zero,List.set_cons_succ]
    refine wpAnyH_take (i:=1) (oi:=⟨_,_,_,_,_,_⟩) (v:=?_) rfl (by kernel_rfl) (by kernel_rfl) (by kernel_rfl) (fun _ _ _ h => h) (Or.inl ⟨by rfl,?_⟩) (by assumption) ?_
    rotate_left
    ·intro w hSw
     (try dsimp only at hSw)
     go_split_ands
     go_simp
     try with_reducible rfl
    try simp only [Act.put,List.setIfInBounds_toArray,List.set_cons_zero,List.set_cons_succ]
    refine wpAnyH_take (i:=2) (oi:=⟨_,_,_,_,_,_⟩) (v:=?_) rfl (by kernel_rfl) (by kernel_rfl) (by kernel_rfl) (fun _ _ _ h => h) (Or.inl ⟨by rfl,?_⟩) (by assumption) ?_
    rotate_left
    ·intro w hSw
     (try dsimp only at hSw)
     go_split_ands
     go_simp
     try with_reducible rfl
    try simp only [Act.put,List.setIfInBounds_toArray,List.set_cons_zero,List.set_cons_succ]
    refine wpAnyH_take (i:=3) (oi:=⟨_,_,_,_,_,_⟩) (v:=?_) rfl (by kernel_rfl) (by kernel_rfl) (by kernel_rfl) (fun _ _ _ h => h) (Or.inl ⟨by rfl,?_⟩) (by assumption) ?_
    rotate_left
    ·intro w hSw
     (try dsimp only at hSw)
     go_split_ands
     go_simp
     try with_reducible rfl
    try simp only [Act.put,List.setIfInBounds_toArray,List.set_cons_zero,List.set_cons_succ]
    refine wpAnyH_ready (rs:=[4]) (by kernel_rfl) (by simp) (AllReadyH.cons (o:=⟨_,_,_,_,_,_⟩) rfl (fun K hK => ?_) AllReadyH.nil)
    go_simp
    refine (escPlain_c (c : Int) HCI.out hst w3.drew HG3.out.deb).mono ?_
    rintro e w4 ⟨rfl,hb4⟩
    (try dsimp only)
    refine hK _ _ trivial (fun hHeld2 => ?_)
    clear hK K hHeld
    try simp only [Act.put,List.setIfInBounds_toArray,List.set_cons_zero,List.set_cons_succ]
    have hb4' : But (fun _ => False) w3 w4:=((But.refl _ w3).drew).trans (But.of hb4)
    have hit4 : w4.heap[it]? = some (.stringIter s (p + k)):=(hb4'.block it (Array.getElem?_eq_some_iff.1 HIT3.out).1 (fun h => h)).trans HIT3.out
    have hP4:=HP3.out.stay0 hb4'
    have hS4:=HS3.out.trans (Soft.of0 hb4')
    have hsz4 : B ≤ w4.heap.size:=Nat.le_trans hsz3 hb4'.size
    clear hb4 hb4'
    refine wpAnyH_ready (rs:=[5]) (by kernel_rfl) (by simp) (AllReadyH.cons (o:=⟨_,_,_,_,_,_⟩) rfl (fun K hK => ?_) AllReadyH.nil)
    go_simp
    refine (putL_c w4 hP4 ⟨(quoteC (c : Int)).toArray⟩ (quoteC (c : Int)) (by simp) (by rw [List.length_append,List.length_append]; have:=HCAP.out; have:=HTLEN.out; have:=hroom.out; have:=HQCL.out; omega) hsz4).mono ?_
    rintro e w5 (⟨hr5,rfl,hP5,hS5⟩ | ⟨hr5,rfl,hS5⟩)
    case inr => exact ⟨rfl,Wr.no (by have:=HTLEN.out; have:=hroom.out; have:=HQCL.out; omega) (hS4.trans hS5)⟩
    (try dsimp only)
    refine hK _ _ trivial (fun hHeld3 => ?_)
    clear hK K hHeld2
    try simp only [Act.put,List.setIfInBounds_toArray,List.set_cons_zero,List.set_cons_succ]
    refine wpAnyH_done (by kernel_rfl) ?_ _
    have hit5:=hS5.iter hit4 hpit
    have HP5:=Lib.hid hP5
    have HS5:=Lib.hid (hS4.trans hS5)
    have HIT5:=Lib.hid hit5
    clear hP5 hS5 hHeld3 hit4 hit5 hP4 hS4
    have hrl:=Tryz.utf8_RuneLen (c : Int) w5
    rw [runeLen_enc HCI.out,HK.out] at hrl
    have hwp : IntKind.i64.wrap ((p : Int) + (k : Int)) = (p : Int) + (k : Int):=IntWalk.i64_in _ (by omega)
    go_wp2_with fail
    refine hrl.mono ?_
    rintro e w6 ⟨rfl,rfl⟩
    go_wp2_with fail
    go_roundw
    case rel =>
     have hpk2 : (enc (pre1 ++ pre2 ++ [(c : Int)])).length = p + k:=by rw [enc_app,List.length_append,HPP.out,show enc [(c : Int)] = encodeRune (c : Int) from by simp [enc],HK.out]
     have ho9 : 34 :: qL quoteC (pre1 ++ pre2 ++ [(c : Int)]) = o1 ++ (qL quoteC pre2 ++ quoteC (c : Int)):=by rw [qL_app,qL_app,← HO1.out,show qL quoteC [(c : Int)] = quoteC (c : Int) from by simp [qL]]; simp
     refine ⟨pre1 ++ pre2 ++ [(c : Int)],[],rest,by rw [hpk2]; simp,?_,?_,?_,?_,?_,HS5.out⟩
     ·show _ = _
      rw [hcsr.out]; simp
     ·intro d hd
      exact absurd hd (by simp)
     ·show _ = _
      rw [HIT5.out,List.append_nil,hpk2]
     ·show _ ≤ _
      rw [ho9,List.length_append,List.length_append]
      have:=hroom.out
      omega
     ·show Pg _ _ _ _ _ _ _ _
      rw [ho9]
      have h:=HP5.out
      rw [List.append_assoc,List.append_assoc,Nat.sub_sub,Nat.sub_sub] at h
      rw [List.length_append,List.length_append]
      exact h
    case measure =>
     rw [hmp]
     simp [World.iterPos,HIT5.out]
     omega
   ·have hcq : quoteC (c : Int) = encodeRune (c : Int):=plain_enc hst
    go_wp2_with fail
    go_roundw
    case rel =>
     refine ⟨pre1,pre2 ++ [(c : Int)],rest,by rw [HPA.out],?_,?_,?_,?_,?_,HS2.out⟩
     ·show _ = _
      rw [hcsr.out]; simp
     ·intro d hd
      rcases List.mem_append.1 hd with hd | hd
      ·exact hstd.out d hd
      ·rw [List.mem_singleton.1 hd]; exact hcq
     ·show _ = _
      rw [HIT2.out,← List.append_assoc,enc_app,List.length_append,HPP.out,show enc [(c : Int)] = encodeRune (c : Int) from by simp [enc],HK.out]
     ·rw [HO1.out]; exact hroom
     ·rw [HO1.out]; exact HP2
    case measure =>
     rw [hmp]
     simp [World.iterPos,HIT2.out]
     omega
set_option maxRecDepth 100000 in
set_option maxHeartbeats 4000000 in
theorem textA_c {B pb : Nat} {bs : List UInt8} {room st o : Nat} (w : World) (hP : Pg B pb bs room st o asciiF w) (hG : Gl B w) (hB : B ≤ w.heap.size) (s : ByteArray) (hT : isT s.data.toList = true) (hs : s.size ≤ 140737488355328)
  (hcap : bs.length + (txtL quoteA s).length ≤ 140737488355328 ∨ bs.length + room ≤ 140737488355328) :
  Calls Tryz.prog 37 #[pgP pb,.string s] w (Wr B pb bs room st o asciiF w (txtL quoteA s)):=by
 obtain ⟨L,hL⟩ : ∃ L,s.data.toList = L:=⟨_,rfl⟩
 have hsz : s.size = L.length:=by rw [← hL,Array.length_toList]; rfl
 obtain ⟨cs,hcs⟩ : ∃ cs,(pcs L).map (·.2) = cs:=⟨_,rfl⟩
 rw [hL] at hT
 obtain ⟨henc,hch⟩:=charsT hT
 rw [hcs] at henc hch
 have htx : txtL quoteA s = 34 :: (qL quoteA cs ++ [34]):=by unfold txtL; rw [hL,hcs]
 rw [htx] at hcap ⊢
 obtain ⟨T,hTT⟩ : ∃ T,34 :: (qL quoteA cs ++ [34]) = T:=⟨_,rfl⟩
 rw [hTT] at hcap ⊢
 have hTl : T.length = (qL quoteA cs).length + 2:=by rw [← hTT]; simp
 have hpl:=hP.lt
 have HP:=Lib.hid hP
 have HG:=Lib.hid hG
 have HENC:=Lib.hid henc
 have HCH:=Lib.hid hch
 have HTT:=Lib.hid hTT
 have HL:=Lib.hid hL
 have HB:=Lib.hid hB
 have HCAP:=Lib.hid hcap
 have HTL:=Lib.hid hTl
 have HSZ:=Lib.hid hsz
 clear hP hG henc hch hTT hL hcs htx hT hB hcap hTl hsz
 go_enter Tryz.func37,Tryz.ntmps37
 go_wp2_with fail
 refine (putL_c w HP.out ⟨#[34]⟩ [34] rfl (by rw [List.length_singleton]; have:=HCAP.out; have:=HTL.out; omega) HB.out).mono ?_
 rintro e w1 (⟨hr1,rfl,hP1,hS1⟩ | ⟨hr1,rfl,hS1⟩)
 case inr =>
  go_wp2_with fail
  exact ⟨rfl,Wr.no (by rw [List.length_singleton] at hr1; have:=HTL.out; omega) hS1⟩
 rw [List.length_singleton] at hr1 hP1
 obtain ⟨it,hit⟩ : ∃ it,w1.heap.size = it:=⟨_,rfl⟩
 have hwit : w.heap.size ≤ it:=by rw [← hit]; exact hS1.size
 have hpit : it ≠ pb:=by omega
 have HP1:=Lib.hid hP1
 have HS1:=Lib.hid hS1
 have HIT:=Lib.hid hit
 clear hP1 hS1
 go_wp2_with fail
 try rw [hit]
 clear hit
 go_loopw [4] (fun from_ wr => ∃ pre1 pre2 rest : List Int,from_ = .int .i64 ((enc pre1).length : Int) ∧ Hid (cs = pre1 ++ (pre2 ++ rest)) ∧ Hid (∀ c ∈ pre2,quoteA c = encodeRune c) ∧ Hid (wr.heap[it]? = some (.stringIter s (enc (pre1 ++ pre2)).length)) ∧ Hid ((34 :: qL quoteA pre1).length ≤ room) ∧ Hid (Pg B pb (bs ++ (34 :: qL quoteA pre1)) (room - (34 :: qL quoteA pre1).length) st o asciiF wr) ∧ Hid (Soft B pb w wr)) (fun _ wr => s.size - wr.iterPos it)
 case atStart =>
  have hb : But (fun _ => False) w1 (w1.iter s 0):=(But.refl _ _).alloc _
  refine ⟨[],[],cs,rfl,by show _ = _; rfl,fun c hc => absurd hc (by simp),?_,by show _ ≤ _; simpa [qL] using hr1,by show Pg _ _ _ _ _ _ _ _; simpa [qL] using HP1.out.stay0 hb,HS1.out.trans (Soft.of0 hb)⟩
  show _ = _
  have:=World.iter_heap w1 s 0
  rw [HIT.out] at this
  simpa [enc] using this
 case round =>
  obtain ⟨pre1,pre2,rest,rfl,hcsr,hstd,hheap,hroom,hPr,hSr⟩:=hrel
  obtain ⟨o1,ho1⟩ : ∃ o1,34 :: qL quoteA pre1 = o1:=⟨_,rfl⟩
  rw [ho1] at hroom hPr
  have HO1:=Lib.hid ho1
  clear ho1
  have hLd : L = enc pre1 ++ (enc pre2 ++ enc rest):=by rw [← HENC.out,hcsr.out,enc_app,enc_app]
  have hT1 : T = o1 ++ (qL quoteA pre2 ++ (qL quoteA rest ++ [34])):=by rw [← HTT.out,hcsr.out,qL_app,qL_app,← HO1.out]; simp
  have hTlen : T.length = o1.length + ((qL quoteA pre2).length + ((qL quoteA rest).length + 1)):=by rw [hT1]; simp only [List.length_append,List.length_singleton]
  have hpl2 : (enc (pre1 ++ pre2)).length = (enc pre1).length + (enc pre2).length:=by rw [enc_app,List.length_append]
  have hq2 : qL quoteA pre2 = enc pre2:=qL_enc hstd.out
  obtain ⟨a,ha⟩ : ∃ a,(enc pre1).length = a:=⟨_,rfl⟩
  obtain ⟨p,hp⟩ : ∃ p,(enc (pre1 ++ pre2)).length = p:=⟨_,rfl⟩
  have hap : a ≤ p:=by omega
  have hpL : p ≤ L.length:=by rw [← hp,hLd,hpl2]; simp only [List.length_append]; omega
  have hmp : wr.iterPos it = p:=by simp [World.iterPos,hheap.out,hp]
  have hcut : (s.extract a p).data.toList = qL quoteA pre2:=by
   rw [ext_bytes,HL.out,← ha,← hp,enc_app,cut_enc hLd,hq2]
  have hcsz : (s.extract a p).size = (qL quoteA pre2).length:=by rw [← hcut,Array.length_toList]; rfl
  rw [ha]
  rw [hp] at hheap
  have HCUT:=Lib.hid hcut
  have HCSZ:=Lib.hid hcsz
  have HT1:=Lib.hid hT1
  have HTLEN:=Lib.hid hTlen
  have HLD:=Lib.hid hLd
  have HPA:=Lib.hid ha
  have HPP:=Lib.hid hp
  have HPL2:=Lib.hid hpl2
  clear hcut hcsz hT1 hTlen hLd ha hp hpl2 hq2
  have hBr : B ≤ wr.heap.size:=Nat.le_trans HB.out hSr.out.size
  cases rest with
  | nil =>
   have hpe : p = s.size:=by
    have h1:=HLD.out
    rw [HSZ.out,h1,← HPP.out,HPL2.out]
    simp [enc]
   have hnx : ∀ ty,(Instr.next (.pointer (some ⟨it,0,none⟩)) true ty).run Tryz.prog wr = _:=fun ty => Lib.run_next_end_at wr it s p ty hheap.out (by omega)
   have hae : (a : Int) ≤ (s.size : Int):=by omega
   have hsle : ¬ (s.size : Int) < (a : Int):=by omega
   subst hpe
   go_upto_region 9 with fail
   refine wp_region_held_drew (S:=fun _ => True) (by kernel_rfl) trivial (fun hHeld => ?_)
   (try simp only [List.size_toArray,List.length_cons,List.length_nil,Nat.reduceAdd,Array.replicate_succ,Array.replicate_zero,List.push_toArray,List.append_toArray,List.nil_append,List.cons_append])
   refine wpAnyH_take (i:=0) (oi:=⟨_,_,_,_,_,_⟩) (v:=?_) rfl (by kernel_rfl) (by kernel_rfl) (by kernel_rfl) (fun _ _ _ h => h) (Or.inl ⟨by rfl,?_⟩) (by assumption) ?_
   rotate_left
   ·intro w hSw
    (try dsimp only at hSw)
    go_split_ands
    go_simp
    try with_reducible rfl
   try simp only [Act.put,List.setIfInBounds_toArray,List.set_cons_zero,List.set_cons_succ]
   refine wpAnyH_take (i:=1) (oi:=⟨_,_,_,_,_,_⟩) (v:=?_) rfl (by kernel_rfl) (by kernel_rfl) (by kernel_rfl) (fun _ _ _ h => h) (Or.inl ⟨by rfl,?_⟩) (by assumption) ?_
   rotate_left
   ·intro w hSw
    (try dsimp only at hSw)
    go_split_ands
    go_simp
    try with_reducible rfl
   try simp only [Act.put,List.setIfInBounds_toArray,List.set_cons_zero,List.set_cons_succ]
   refine wpAnyH_take (i:=2) (oi:=⟨_,_,_,_,_,_⟩) (v:=?_) rfl (by kernel_rfl) (by kernel_rfl) (by kernel_rfl) (fun _ _ _ h => h) (Or.inl ⟨by rfl,?_⟩) (by assumption) ?_
   rotate_left
   ·intro w hSw
    (try dsimp only at hSw)
    go_split_ands
    go_simp
    try with_reducible rfl
   try simp only [Act.put,List.setIfInBounds_toArray,List.set_cons_zero,List.set_cons_succ]
   refine wpAnyH_take (i:=3) (oi:=⟨_,_,_,_,_,_⟩) (v:=?_) rfl (by kernel_rfl) (by kernel_rfl) (by kernel_rfl) (fun _ _ _ h => h) (Or.inl ⟨by rfl,?_⟩) (by assumption) ?_
   rotate_left
   ·intro w hSw
    (try dsimp only at hSw)
    go_split_ands
    go_simp
    try with_reducible rfl
   try simp only [Act.put,List.setIfInBounds_toArray,List.set_cons_zero,List.set_cons_succ]
   refine wpAnyH_take (i:=4) (oi:=⟨_,_,_,_,_,_⟩) (v:=?_) rfl (by kernel_rfl) (by kernel_rfl) (by kernel_rfl) (fun _ _ _ h => h) (Or.inl ⟨by rfl,?_⟩) (by assumption) ?_
   rotate_left
   ·intro w hSw
    (try dsimp only at hSw)
    go_split_ands
    go_simp
    try with_reducible rfl
   try simp only [Act.put,List.setIfInBounds_toArray,List.set_cons_zero,List.set_cons_succ]
   refine wpAnyH_take (i:=5) (oi:=⟨_,_,_,_,_,_⟩) (v:=?_) rfl (by kernel_rfl) (by kernel_rfl) (by kernel_rfl) (fun _ _ _ h => h) (Or.inl ⟨by rfl,?_⟩) (by assumption) ?_
   rotate_left
   ·intro w hSw
    (try dsimp only at hSw)
    go_split_ands
    go_simp
    try with_reducible rfl
   try simp only [Act.put,List.setIfInBounds_toArray,List.set_cons_zero,List.set_cons_succ]
   refine wpAnyH_ready (rs:=[6]) (by kernel_rfl) (by simp) (AllReadyH.cons (o:=⟨_,_,_,_,_,_⟩) rfl (fun K hK => ?_) AllReadyH.nil)
   go_simp
   refine (putL_c _ hPr.out.drw (s.extract a s.size) _ HCUT.out (by rw [List.length_append]; have:=HCAP.out; have:=HTLEN.out; have:=hroom.out; omega) hBr).mono ?_
   rintro e w2 (⟨hr2,rfl,hP2,hS2⟩ | ⟨hr2,rfl,hS2⟩)
   case inr => exact ⟨rfl,Wr.no (by have:=HTLEN.out; have:=hroom.out; omega) (hSr.out.drw.trans hS2)⟩
   (try dsimp only)
   refine hK _ _ trivial (fun hHeld2 => ?_)
   clear hK K hHeld
   try simp only [Act.put,List.setIfInBounds_toArray,List.set_cons_zero,List.set_cons_succ]
   refine wpAnyH_done (by kernel_rfl) ?_ _
   have HP2:=Lib.hid hP2
   have HS2:=Lib.hid (hSr.out.drw.trans hS2)
   clear hP2 hS2 hHeld2 hPr hheap hSr
   go_wp2_with fail
   refine (putL_c w2 HP2.out ⟨#[34]⟩ [34] rfl (by rw [List.length_singleton,List.length_append,List.length_append]; have:=HCAP.out; have:=HTLEN.out; have:=hroom.out; omega) (Nat.le_trans HB.out HS2.out.size)).mono ?_
   rintro e w3 (⟨hr3,rfl,hP3,hS3⟩ | ⟨hr3,rfl,hS3⟩)
   case inr =>
    go_wp2_with fail
    rw [List.length_singleton] at hr3
    exact ⟨rfl,Wr.no (by have:=HTLEN.out; have:=hroom.out; omega) (HS2.out.trans hS3)⟩
   rw [List.length_singleton] at hr3 hP3
   have HP3:=Lib.hid hP3
   have HS3:=Lib.hid (HS2.out.trans hS3)
   clear hP3 hS3
   go_wp2_with fail
   first | go_end0 | refine bodyPost_ret (results_none rfl _ _ _) rfl ?_
   have hT9 : T = o1 ++ (qL quoteA pre2 ++ [34]):=by rw [HT1.out]; rfl
   have hl9 : T.length = o1.length + ((qL quoteA pre2).length + 1):=by rw [HTLEN.out]; rfl
   refine Wr.done (by have:=hroom.out; omega) ?_ HS3.out
   have h:=HP3.out
   rw [List.append_assoc,List.append_assoc,← hT9,show room - o1.length - (qL quoteA pre2).length - 1 = room - T.length by omega] at h
   exact h
  | cons ci rest =>
   have hci : isCh ci:=HCH.out ci (by rw [hcsr.out]; simp)
   obtain ⟨c,rfl⟩ : ∃ c : Nat,ci = (c : Int):=⟨ci.toNat,by unfold isCh at hci; omega⟩
   obtain ⟨k,hk⟩ : ∃ k,(encodeRune (c : Int)).length = k:=⟨_,rfl⟩
   have hdec : Utf8.decode s p = (c,k):=by
    rw [← decodeL_drop,HL.out,HLD.out,← HPP.out,enc_app,← List.append_assoc,List.drop_left,enc_cons,decode_enc hci,hk]
    rfl
   have hpk : p + k ≤ s.size:=by
    have h1:=HLD.out
    rw [HSZ.out,h1,← HPP.out,HPL2.out,enc_cons]
    simp only [List.length_append,hk]
    omega
   have hk1 : 1 ≤ k:=by
    rw [← hk]
    rcases Nat.eq_zero_or_pos (encodeRune (c : Int)).length with h | h
    ·exact absurd (by rw [List.append_nil]; exact List.eq_nil_of_length_eq_zero h) (enc_ne (c : Int) [])
    ·exact h
   have hlt : p < s.size:=by omega
   have hnx : ∀ ty,(Instr.next (.pointer (some ⟨it,0,none⟩)) true ty).run Tryz.prog wr = _:=fun ty => Lib.run_next_any_at wr it s p ty hheap.out hlt
   rw [hdec] at hnx
   have hP2:=hPr.out.iterAt hheap.out (p + k)
   have hS2:=hSr.out.iterAt hwit s (p + k)
   have hit2:=Lib.iterAt_heap wr it s p (p + k) hheap.out
   have hsz2 : B ≤ (wr.iterAt it s (p + k)).heap.size:=by rw [Lib.iterAt_size]; exact hBr
   obtain ⟨w2,hw2⟩ : ∃ w2,wr.iterAt it s (p + k) = w2:=⟨_,rfl⟩
   have hw2n : ∀ ty,(Instr.next (.pointer (some ⟨it,0,none⟩)) true ty).run Tryz.prog wr = .ok (.tuple #[.bool true,.int .i64 (p : Int),.int .i32 (c : Int)]) w2:=fun ty => by rw [hnx ty,hw2]
   rw [hw2] at hP2 hS2 hit2 hsz2
   clear hnx hw2
   obtain ⟨-,-,-,c5⟩:=hP2.cells
   have HP2:=Lib.hid hP2
   have HS2:=Lib.hid hS2
   have HIT2:=Lib.hid hit2
   have HK:=Lib.hid hk
   have HCI:=Lib.hid hci
   clear hP2 hS2 hit2 hdec hk hPr hSr
   go_wp2_with fail
   refine (ascii1_c (c : Int) w2 (by omega) (by have:=HCI.out; unfold isCh at this; omega)).mono ?_
   rintro e w3 ⟨rfl,rfl⟩
   cases hst : standA (c : Int)
   ·have hps : p ≤ s.size:=by omega
    go_upto_region 6 with fail
    refine wp_region_held_drew (S:=fun _ => True) (by kernel_rfl) trivial (fun hHeld => ?_)
    (try simp only [List.size_toArray,List.length_cons,List.length_nil,Nat.reduceAdd,Array.replicate_succ,Array.replicate_zero,List.push_toArray,List.append_toArray,List.nil_append,List.cons_append])
    refine wpAnyH_take (i:=0) (oi:=⟨_,_,_,_,_,_⟩) (v:=?_) rfl (by kernel_rfl) (by kernel_rfl) (by kernel_rfl) (fun _ _ _ h => h) (Or.inl ⟨by rfl,?_⟩) (by assumption) ?_
    rotate_left
    ·intro w hSw
     (try dsimp only at hSw)
     go_split_ands
     go_simp
     try with_reducible rfl
    try simp only [Act.put,List.setIfInBounds_toArray,List.set_cons_zero,List.set_cons_succ]
    refine wpAnyH_take (i:=1) (oi:=⟨_,_,_,_,_,_⟩) (v:=?_) rfl (by kernel_rfl) (by kernel_rfl) (by kernel_rfl) (fun _ _ _ h => h) (Or.inl ⟨by rfl,?_⟩) (by assumption) ?_
    rotate_left
    ·intro w hSw
     (try dsimp only at hSw)
     go_split_ands
     go_simp
     try with_reducible rfl
    try simp only [Act.put,List.setIfInBounds_toArray,List.set_cons_zero,List.set_cons_succ]
    refine wpAnyH_take (i:=2) (oi:=⟨_,_,_,_,_,_⟩) (v:=?_) rfl (by kernel_rfl) (by kernel_rfl) (by kernel_rfl) (fun _ _ _ h => h) (Or.inl ⟨by rfl,?_⟩) (by assumption) ?_
    rotate_left
    ·intro w hSw
     (try dsimp only at hSw)
     go_split_ands
     go_simp
     try with_reducible rfl
    try simp only [Act.put,List.setIfInBounds_toArray,List.set_cons_zero,List.set_cons_succ]
    refine wpAnyH_take (i:=3) (oi:=⟨_,_,_,_,_,_⟩) (v:=?_) rfl (by kernel_rfl) (by kernel_rfl) (by kernel_rfl) (fun _ _ _ h => h) (Or.inl ⟨by rfl,?_⟩) (by assumption) ?_
    rotate_left
    ·intro w hSw
     (try dsimp only at hSw)
     go_split_ands
     go_simp
     try with_reducible rfl
    try simp only [Act.put,List.setIfInBounds_toArray,List.set_cons_zero,List.set_cons_succ]
    refine wpAnyH_take (i:=4) (oi:=⟨_,_,_,_,_,_⟩) (v:=?_) rfl (by kernel_rfl) (by kernel_rfl) (by kernel_rfl) (fun _ _ _ h => h) (Or.inl ⟨by rfl,?_⟩) (by assumption) ?_
    rotate_left
    ·intro w hSw
     (try dsimp only at hSw)
     go_split_ands
     go_simp
     try with_reducible rfl
    try simp only [Act.put,List.setIfInBounds_toArray,List.set_cons_zero,List.set_cons_succ]
    refine wpAnyH_take (i:=5) (oi:=⟨_,_,_,_,_,_⟩) (v:=?_) rfl (by kernel_rfl) (by kernel_rfl) (by kernel_rfl) (fun _ _ _ h => h) (Or.inl ⟨by rfl,?_⟩) (by assumption) ?_
    rotate_left
    ·intro w hSw
     (try dsimp only at hSw)
     go_split_ands
     go_simp
     try with_reducible rfl
    try simp only [Act.put,List.setIfInBounds_toArray,List.set_cons_zero,List.set_cons_succ]
    refine wpAnyH_take (i:=6) (oi:=⟨_,_,_,_,_,_⟩) (v:=?_) rfl (by kernel_rfl) (by kernel_rfl) (by kernel_rfl) (fun _ _ _ h => h) (Or.inl ⟨by rfl,?_⟩) (by assumption) ?_
    rotate_left
    ·intro w hSw
     (try dsimp only at hSw)
     go_split_ands
     go_simp
     try with_reducible rfl
    try simp only [Act.put,List.setIfInBounds_toArray,List.set_cons_zero,List.set_cons_succ]
    refine wpAnyH_ready (rs:=[7]) (by kernel_rfl) (by simp) (AllReadyH.cons (o:=⟨_,_,_,_,_,_⟩) rfl (fun K hK => ?_) AllReadyH.nil)
    go_simp
    refine (putL_c _ HP2.out.drw (s.extract a p) _ HCUT.out (by rw [List.length_append]; have:=HCAP.out; have:=HTLEN.out; have:=hroom.out; omega) hsz2).mono ?_
    rintro e w3 (⟨hr3,rfl,hP3,hS3⟩ | ⟨hr3,rfl,hS3⟩)
    case inr => exact ⟨rfl,Wr.no (by have:=HTLEN.out; have:=hroom.out; omega) (HS2.out.drw.trans hS3)⟩
    (try dsimp only)
    refine hK _ _ trivial (fun hHeld2 => ?_)
    clear hK K hHeld
    try simp only [Act.put,List.setIfInBounds_toArray,List.set_cons_zero,List.set_cons_succ]
    refine wpAnyH_done (by kernel_rfl) ?_ _
    have hit3:=hS3.iter (w:=w2.drew) HIT2.out hpit
    have hsz3 : B ≤ w3.heap.size:=Nat.le_trans hsz2 hS3.size
    have hG3 : Gl B w3:=HG.out.low ((HS2.out.drw.trans hS3).below HB.out HP.out.base)
    have HP3:=Lib.hid hP3
    have HS3:=Lib.hid (HS2.out.drw.trans hS3)
    have HIT3:=Lib.hid hit3
    have HG3:=Lib.hid hG3
    clear hP3 hS3 hHeld2 hit3 hG3 c5
    have hqcl : (qL quoteA ((c : Int) :: rest)).length = (quoteA (c : Int)).length + (qL quoteA rest).length:=by rw [qL_cons,List.length_append]
    have HQCL:=Lib.hid hqcl
    clear hqcl
    go_upto_region 7 with fail
    refine wp_region_held_drew (S:=fun _ => True) (by kernel_rfl) trivial (fun hHeld => ?_)
    (try simp only [List.size_toArray,List.length_cons,List.length_nil,Nat.reduceAdd,Array.replicate_succ,Array.replicate_zero,List.push_toArray,List.append_toArray,List.nil_append,List.cons_append])
    refine wpAnyH_take (i:=0) (oi:=⟨_,_,_,_,_,_⟩) (v:=?_) rfl (by kernel_rfl) (by kernel_rfl) (by kernel_rfl) (fun _ _ _ h => h) (Or.inl ⟨by rfl,?_⟩) (by assumption) ?_
    rotate_left
    ·intro w hSw
     (try dsimp only at hSw)
     go_split_ands
     go_simp
     try with_reducible rfl
    try simp only [Act.put,List.setIfInBounds_toArray,List.set_cons_zero,List.set_cons_succ]
    refine wpAnyH_take (i:=1) (oi:=⟨_,_,_,_,_,_⟩) (v:=?_) rfl (by kernel_rfl) (by kernel_rfl) (by kernel_rfl) (fun _ _ _ h => h) (Or.inl ⟨by rfl,?_⟩) (by assumption) ?_
    rotate_left
    ·intro w hSw
     (try dsimp only at hSw)
     go_split_ands
     go_simp
     try with_reducible rfl
    try simp only [Act.put,List.setIfInBounds_toArray,List.set_cons_zero,List.set_cons_succ]
    refine wpAnyH_take (i:=2) (oi:=⟨_,_,_,_,_,_⟩) (v:=?_) rfl (by kernel_rfl) (by kernel_rfl) (by kernel_rfl) (fun _ _ _ h => h) (Or.inl ⟨by rfl,?_⟩) (by assumption) ?_
    rotate_left
    ·intro w hSw
     (try dsimp only at hSw)
     go_split_ands
     go_simp
     try with_reducible rfl
    try simp only [Act.put,List.setIfInBounds_toArray,List.set_cons_zero,List.set_cons_succ]
    refine wpAnyH_take (i:=3) (oi:=⟨_,_,_,_,_,_⟩) (v:=?_) rfl (by kernel_rfl) (by kernel_rfl) (by kernel_rfl) (fun _ _ _ h => h) (Or.inl ⟨by rfl,?_⟩) (by assumption) ?_
    rotate_left
    ·intro w hSw
     (try dsimp only at hSw)
     go_split_ands
     go_simp
     try with_reducible rfl
    try simp only [Act.put,List.setIfInBounds_toArray,List.set_cons_zero,List.set_cons_succ]
    refine wpAnyH_ready (rs:=[4]) (by kernel_rfl) (by simp) (AllReadyH.cons (o:=⟨_,_,_,_,_,_⟩) rfl (fun K hK => ?_) AllReadyH.nil)
    go_simp
    refine (escAscii_c (c : Int) HCI.out hst w3.drew HG3.out.deb).mono ?_
    rintro e w4 ⟨rfl,hb4⟩
    (try dsimp only)
    refine hK _ _ trivial (fun hHeld2 => ?_)
    clear hK K hHeld
    try simp only [Act.put,List.setIfInBounds_toArray,List.set_cons_zero,List.set_cons_succ]
    have hb4' : But (fun _ => False) w3 w4:=((But.refl _ w3).drew).trans (But.of hb4)
    have hit4 : w4.heap[it]? = some (.stringIter s (p + k)):=(hb4'.block it (Array.getElem?_eq_some_iff.1 HIT3.out).1 (fun h => h)).trans HIT3.out
    have hP4:=HP3.out.stay0 hb4'
    have hS4:=HS3.out.trans (Soft.of0 hb4')
    have hsz4 : B ≤ w4.heap.size:=Nat.le_trans hsz3 hb4'.size
    clear hb4 hb4'
    refine wpAnyH_ready (rs:=[5]) (by kernel_rfl) (by simp) (AllReadyH.cons (o:=⟨_,_,_,_,_,_⟩) rfl (fun K hK => ?_) AllReadyH.nil)
    go_simp
    refine (putL_c w4 hP4 ⟨(quoteA (c : Int)).toArray⟩ (quoteA (c : Int)) (by simp) (by rw [List.length_append,List.length_append]; have:=HCAP.out; have:=HTLEN.out; have:=hroom.out; have:=HQCL.out; omega) hsz4).mono ?_
    rintro e w5 (⟨hr5,rfl,hP5,hS5⟩ | ⟨hr5,rfl,hS5⟩)
    case inr => exact ⟨rfl,Wr.no (by have:=HTLEN.out; have:=hroom.out; have:=HQCL.out; omega) (hS4.trans hS5)⟩
    (try dsimp only)
    refine hK _ _ trivial (fun hHeld3 => ?_)
    clear hK K hHeld2
    try simp only [Act.put,List.setIfInBounds_toArray,List.set_cons_zero,List.set_cons_succ]
    refine wpAnyH_done (by kernel_rfl) ?_ _
    have hit5:=hS5.iter hit4 hpit
    have HP5:=Lib.hid hP5
    have HS5:=Lib.hid (hS4.trans hS5)
    have HIT5:=Lib.hid hit5
    clear hP5 hS5 hHeld3 hit4 hit5 hP4 hS4
    have hrl:=Tryz.utf8_RuneLen (c : Int) w5
    rw [runeLen_enc HCI.out,HK.out] at hrl
    have hwp : IntKind.i64.wrap ((p : Int) + (k : Int)) = (p : Int) + (k : Int):=IntWalk.i64_in _ (by omega)
    go_wp2_with fail
    refine hrl.mono ?_
    rintro e w6 ⟨rfl,rfl⟩
    go_wp2_with fail
    go_roundw
    case rel =>
     have hpk2 : (enc (pre1 ++ pre2 ++ [(c : Int)])).length = p + k:=by rw [enc_app,List.length_append,HPP.out,show enc [(c : Int)] = encodeRune (c : Int) from by simp [enc],HK.out]
     have ho9 : 34 :: qL quoteA (pre1 ++ pre2 ++ [(c : Int)]) = o1 ++ (qL quoteA pre2 ++ quoteA (c : Int)):=by rw [qL_app,qL_app,← HO1.out,show qL quoteA [(c : Int)] = quoteA (c : Int) from by simp [qL]]; simp
     refine ⟨pre1 ++ pre2 ++ [(c : Int)],[],rest,by rw [hpk2]; simp,?_,?_,?_,?_,?_,HS5.out⟩
     ·show _ = _
      rw [hcsr.out]; simp
     ·intro d hd
      exact absurd hd (by simp)
     ·show _ = _
      rw [HIT5.out,List.append_nil,hpk2]
     ·show _ ≤ _
      rw [ho9,List.length_append,List.length_append]
      have:=hroom.out
      omega
     ·show Pg _ _ _ _ _ _ _ _
      rw [ho9]
      have h:=HP5.out
      rw [List.append_assoc,List.append_assoc,Nat.sub_sub,Nat.sub_sub] at h
      rw [List.length_append,List.length_append]
      exact h
    case measure =>
     rw [hmp]
     simp [World.iterPos,HIT5.out]
     omega
   ·have hcq : quoteA (c : Int) = encodeRune (c : Int):=standA_enc hst
    go_wp2_with fail
    go_roundw
    case rel =>
     refine ⟨pre1,pre2 ++ [(c : Int)],rest,by rw [HPA.out],?_,?_,?_,?_,?_,HS2.out⟩
     ·show _ = _
      rw [hcsr.out]; simp
     ·intro d hd
      rcases List.mem_append.1 hd with hd | hd
      ·exact hstd.out d hd
      ·rw [List.mem_singleton.1 hd]; exact hcq
     ·show _ = _
      rw [HIT2.out,← List.append_assoc,enc_app,List.length_append,HPP.out,show enc [(c : Int)] = encodeRune (c : Int) from by simp [enc],HK.out]
     ·rw [HO1.out]; exact hroom
     ·rw [HO1.out]; exact HP2
    case measure =>
     rw [hmp]
     simp [World.iterPos,HIT2.out]
     omega
end Go.Proofs.YtkigpbkkhgabeaaGreatDoor
