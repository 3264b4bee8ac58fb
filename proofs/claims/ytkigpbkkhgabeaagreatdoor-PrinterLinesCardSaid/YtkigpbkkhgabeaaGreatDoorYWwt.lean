import Derived.Test.YtkigpbkkhgabeaaGreatDoorYWws
import Derived.Test.YtkigpbkkhgabeaaGreatDoorYWtc
set_option linter.unusedVariables false
set_option linter.unusedSimpArgs false
namespace Go.Proofs.YtkigpbkkhgabeaaGreatDoor
open Go.RowKit Go.Lib
theorem foldl_snoc7 {key : ByteArray} {x : VT} {P : List (ByteArray × VT)} {i : Nat} {p : ByteArray × VT} (hp : P[i]? = some p) {st : List (ByteArray × VT) × Bool} : (P.take (i + 1)).foldl (wStep key x) st = wStep key x ((P.take i).foldl (wStep key x) st) p:=by
 have h:=(List.getElem?_eq_some_iff.1 hp)
 rw [List.take_add_one,hp,List.foldl_append]
 rfl
theorem wStep_eq7 {key : ByteArray} {x : VT} {acc : List (ByteArray × VT)} {dn ls eq : Bool} {pr : ByteArray × VT} (hl : Go.Op.bytesLess pr.1.toList key.toList = ls) (he : (pr.1.toList == key.toList) = eq) :
  wStep key x (acc,dn) pr = ((if dn = false ∧ ls = false then acc ++ [(key,x)] else acc) ++ (if eq = true then [] else [pr]),dn || !ls):=by
 unfold wStep
 rw [hl]
 have h : (pr.1 = key) ↔ eq = true:=by
  rw [← he,beq_iff_eq,ByteArray.toList_eq,ByteArray.toList_eq]
  exact ⟨fun e => by rw [e],fun e => ba_ext e⟩
 by_cases hp : pr.1 = key
 ·rw [if_pos hp,if_pos (h.1 hp)]
 ·rw [if_neg hp,if_neg (fun e => hp (h.2 e))]
theorem ttNo7 {dn ls : Bool} (h : false = (!dn && !ls)) : (dn || !ls) = dn ∧ ¬ (dn = false ∧ ls = false):=by cases dn <;> cases ls <;> simp at h ⊢
theorem ttYes7 {dn ls : Bool} (h : true = (!dn && !ls)) : dn = false ∧ ls = false:=by cases dn <;> cases ls <;> simp at h ⊢
set_option maxRecDepth 4000000 in
set_option maxHeartbeats 8000000 in
theorem with7_c {w : World} {S : Nat → Prop} {P : List (ByteArray × VT)} {key : ByteArray} {x : VT} {cs xs : List Value} (hv : VIn w S (objP P) cs) (hx : VIn w S x xs) (hS : ∀ b,S b → b < w.heap.size) (hP : P.length ≤ 5000) (hk : key.size ≤ 140737488355328) :
  Calls Tryz.prog 112 #[.agg cs.toArray,.string key,.agg xs.toArray] w fun e w' => ∃ cs' : List Value,e = .returned (.agg cs'.toArray) ∧ VIn w' (fun b => S b ∨ (w.heap.size ≤ b ∧ b < w'.heap.size)) (objP (withP key x P)) cs' ∧ Below w.heap.size w w':=by
 have hvp:=hv
 unfold objP at hvp
 obtain ⟨A1,n1,c1,LV,lnv,lcv,KV,knv,kcv,rfl,-,-,-,hrl,hrt,-,hlc⟩:=hvp.parts
 obtain ⟨v0,v1,v2,v3,v4,v5,v6,rfl,h7⟩:=hx.row7
 have hkn : knv = P.length:=by have:=hrt.1; rw [List.length_map] at this; exact this.symm
 have hln : lnv = P.length:=by have:=hrl.1; rw [List.length_map] at this; exact this.symm
 subst hkn hln
 obtain ⟨M,hM⟩ : ∃ b,w.heap.size = b:=⟨_,rfl⟩
 have s1 : (w.alloc (.cells #[.int .i64 6,.bool false,.slice A1 n1 c1,.int .i64 0,.string ⟨#[]⟩,.slice LV P.length lcv,.slice KV P.length kcv] 28)).heap.size = M + 1:=by rw [World.size_alloc,hM]
 have s2 : ((w.alloc (.cells #[.int .i64 6,.bool false,.slice A1 n1 c1,.int .i64 0,.string ⟨#[]⟩,.slice LV P.length lcv,.slice KV P.length kcv] 28)).alloc (.cells #[v0,v1,v2,v3,v4,v5,v6] 28)).heap.size = M + 2:=by rw [World.size_alloc,s1]
 have s3 : (((w.alloc (.cells #[.int .i64 6,.bool false,.slice A1 n1 c1,.int .i64 0,.string ⟨#[]⟩,.slice LV P.length lcv,.slice KV P.length kcv] 28)).alloc (.cells #[v0,v1,v2,v3,v4,v5,v6] 28)).alloc (.cells #[.int .i64 0,.bool false,.slice none 0 0,.int .i64 0,.string ⟨#[]⟩,.slice none 0 0,.slice none 0 0] 28)).heap.size = M + 3:=by rw [World.size_alloc,s2]
 have s0 : ((((w.alloc (.cells #[.int .i64 6,.bool false,.slice A1 n1 c1,.int .i64 0,.string ⟨#[]⟩,.slice LV P.length lcv,.slice KV P.length kcv] 28)).alloc (.cells #[v0,v1,v2,v3,v4,v5,v6] 28)).alloc (.cells #[.int .i64 0,.bool false,.slice none 0 0,.int .i64 0,.string ⟨#[]⟩,.slice none 0 0,.slice none 0 0] 28)).alloc (.cells #[.int .i64 6,.bool false,.slice none 0 0,.int .i64 0,.string ⟨#[]⟩,.slice none 0 0,.slice none 0 0] 28)).heap.size = M + 4:=by rw [World.size_alloc,s3]
 have hb0 : Below M w ((((w.alloc (.cells #[.int .i64 6,.bool false,.slice A1 n1 c1,.int .i64 0,.string ⟨#[]⟩,.slice LV P.length lcv,.slice KV P.length kcv] 28)).alloc (.cells #[v0,v1,v2,v3,v4,v5,v6] 28)).alloc (.cells #[.int .i64 0,.bool false,.slice none 0 0,.int .i64 0,.string ⟨#[]⟩,.slice none 0 0,.slice none 0 0] 28)).alloc (.cells #[.int .i64 6,.bool false,.slice none 0 0,.int .i64 0,.string ⟨#[]⟩,.slice none 0 0,.slice none 0 0] 28)):=((((Below.refl M w).alloc (by omega) _).alloc (by omega) _).alloc (by omega) _).alloc (by omega) _
 have hvb : ((((w.alloc (.cells #[.int .i64 6,.bool false,.slice A1 n1 c1,.int .i64 0,.string ⟨#[]⟩,.slice LV P.length lcv,.slice KV P.length kcv] 28)).alloc (.cells #[v0,v1,v2,v3,v4,v5,v6] 28)).alloc (.cells #[.int .i64 0,.bool false,.slice none 0 0,.int .i64 0,.string ⟨#[]⟩,.slice none 0 0,.slice none 0 0] 28)).alloc (.cells #[.int .i64 6,.bool false,.slice none 0 0,.int .i64 0,.string ⟨#[]⟩,.slice none 0 0,.slice none 0 0] 28)).heap[M]? = some (.cells #[.int .i64 6,.bool false,.slice A1 n1 c1,.int .i64 0,.string ⟨#[]⟩,.slice LV P.length lcv,.slice KV P.length kcv] 28):=by
  have h1:=World.alloc_heap_new w (.cells #[.int .i64 6,.bool false,.slice A1 n1 c1,.int .i64 0,.string ⟨#[]⟩,.slice LV P.length lcv,.slice KV P.length kcv] 28)
  rw [hM] at h1
  exact ((((Below.refl (M + 1) (w.alloc (.cells #[.int .i64 6,.bool false,.slice A1 n1 c1,.int .i64 0,.string ⟨#[]⟩,.slice LV P.length lcv,.slice KV P.length kcv] 28))).alloc (by omega) (.cells #[v0,v1,v2,v3,v4,v5,v6] 28)).alloc (by omega) (.cells #[.int .i64 0,.bool false,.slice none 0 0,.int .i64 0,.string ⟨#[]⟩,.slice none 0 0,.slice none 0 0] 28)).alloc (by omega) (.cells #[.int .i64 6,.bool false,.slice none 0 0,.int .i64 0,.string ⟨#[]⟩,.slice none 0 0,.slice none 0 0] 28)).block M (by omega) |>.trans h1
 have hxb : ((((w.alloc (.cells #[.int .i64 6,.bool false,.slice A1 n1 c1,.int .i64 0,.string ⟨#[]⟩,.slice LV P.length lcv,.slice KV P.length kcv] 28)).alloc (.cells #[v0,v1,v2,v3,v4,v5,v6] 28)).alloc (.cells #[.int .i64 0,.bool false,.slice none 0 0,.int .i64 0,.string ⟨#[]⟩,.slice none 0 0,.slice none 0 0] 28)).alloc (.cells #[.int .i64 6,.bool false,.slice none 0 0,.int .i64 0,.string ⟨#[]⟩,.slice none 0 0,.slice none 0 0] 28)).heap[M + 1]? = some (.cells #[v0,v1,v2,v3,v4,v5,v6] 28):=by
  have h1:=World.alloc_heap_new (w.alloc (.cells #[.int .i64 6,.bool false,.slice A1 n1 c1,.int .i64 0,.string ⟨#[]⟩,.slice LV P.length lcv,.slice KV P.length kcv] 28)) (.cells #[v0,v1,v2,v3,v4,v5,v6] 28)
  rw [s1] at h1
  exact (((Below.refl (M + 2) ((w.alloc (.cells #[.int .i64 6,.bool false,.slice A1 n1 c1,.int .i64 0,.string ⟨#[]⟩,.slice LV P.length lcv,.slice KV P.length kcv] 28)).alloc (.cells #[v0,v1,v2,v3,v4,v5,v6] 28))).alloc (by omega) (.cells #[.int .i64 0,.bool false,.slice none 0 0,.int .i64 0,.string ⟨#[]⟩,.slice none 0 0,.slice none 0 0] 28)).alloc (by omega) (.cells #[.int .i64 6,.bool false,.slice none 0 0,.int .i64 0,.string ⟨#[]⟩,.slice none 0 0,.slice none 0 0] 28)).block (M + 1) (by omega) |>.trans h1
 have hrb : ((((w.alloc (.cells #[.int .i64 6,.bool false,.slice A1 n1 c1,.int .i64 0,.string ⟨#[]⟩,.slice LV P.length lcv,.slice KV P.length kcv] 28)).alloc (.cells #[v0,v1,v2,v3,v4,v5,v6] 28)).alloc (.cells #[.int .i64 0,.bool false,.slice none 0 0,.int .i64 0,.string ⟨#[]⟩,.slice none 0 0,.slice none 0 0] 28)).alloc (.cells #[.int .i64 6,.bool false,.slice none 0 0,.int .i64 0,.string ⟨#[]⟩,.slice none 0 0,.slice none 0 0] 28)).heap[M + 2]? = some (.cells #[.int .i64 0,.bool false,.slice none 0 0,.int .i64 0,.string ⟨#[]⟩,.slice none 0 0,.slice none 0 0] 28):=by
  have h1:=World.alloc_heap_new ((w.alloc (.cells #[.int .i64 6,.bool false,.slice A1 n1 c1,.int .i64 0,.string ⟨#[]⟩,.slice LV P.length lcv,.slice KV P.length kcv] 28)).alloc (.cells #[v0,v1,v2,v3,v4,v5,v6] 28)) (.cells #[.int .i64 0,.bool false,.slice none 0 0,.int .i64 0,.string ⟨#[]⟩,.slice none 0 0,.slice none 0 0] 28)
  rw [s2] at h1
  exact ((Below.refl (M + 3) (((w.alloc (.cells #[.int .i64 6,.bool false,.slice A1 n1 c1,.int .i64 0,.string ⟨#[]⟩,.slice LV P.length lcv,.slice KV P.length kcv] 28)).alloc (.cells #[v0,v1,v2,v3,v4,v5,v6] 28)).alloc (.cells #[.int .i64 0,.bool false,.slice none 0 0,.int .i64 0,.string ⟨#[]⟩,.slice none 0 0,.slice none 0 0] 28))).alloc (by omega) (.cells #[.int .i64 6,.bool false,.slice none 0 0,.int .i64 0,.string ⟨#[]⟩,.slice none 0 0,.slice none 0 0] 28)).block (M + 2) (by omega) |>.trans h1
 have hob : ((((w.alloc (.cells #[.int .i64 6,.bool false,.slice A1 n1 c1,.int .i64 0,.string ⟨#[]⟩,.slice LV P.length lcv,.slice KV P.length kcv] 28)).alloc (.cells #[v0,v1,v2,v3,v4,v5,v6] 28)).alloc (.cells #[.int .i64 0,.bool false,.slice none 0 0,.int .i64 0,.string ⟨#[]⟩,.slice none 0 0,.slice none 0 0] 28)).alloc (.cells #[.int .i64 6,.bool false,.slice none 0 0,.int .i64 0,.string ⟨#[]⟩,.slice none 0 0,.slice none 0 0] 28)).heap[M + 3]? = some (.cells #[.int .i64 6,.bool false,.slice none 0 0,.int .i64 0,.string ⟨#[]⟩,.slice none 0 0,.slice none 0 0] 28):=by
  have h1:=World.alloc_heap_new (((w.alloc (.cells #[.int .i64 6,.bool false,.slice A1 n1 c1,.int .i64 0,.string ⟨#[]⟩,.slice LV P.length lcv,.slice KV P.length kcv] 28)).alloc (.cells #[v0,v1,v2,v3,v4,v5,v6] 28)).alloc (.cells #[.int .i64 0,.bool false,.slice none 0 0,.int .i64 0,.string ⟨#[]⟩,.slice none 0 0,.slice none 0 0] 28)) (.cells #[.int .i64 6,.bool false,.slice none 0 0,.int .i64 0,.string ⟨#[]⟩,.slice none 0 0,.slice none 0 0] 28)
  rw [s3] at h1
  exact h1
 have hv0:=hv.stay hb0 (fun b h => by have:=hS b h; omega)
 have hx0:=hx.stay hb0 (fun b h => by have:=hS b h; omega)
 have hrt0:=hrt.stay hb0 (fun b h => by have:=hS b h; omega)
 have hrl0:=hrl.stay hb0 (fun b h => by have:=hS b h; omega)
 have hSM : ∀ b,S b → b < M:=fun b h => by have:=hS b h; omega
 clear hvp hv hx hrt hrl
 go_enter Tryz.func112,Tryz.ntmps112
 go_upto_region 2 with fail
 try rw [s3]
 try rw [s2]
 try rw [s1]
 try rw [hM]
 clear s1 s2 s3
 have HB0:=Lib.hid hb0
 have HS0:=Lib.hid s0
 have HVB:=Lib.hid hvb
 have HXB:=Lib.hid hxb
 have HRB:=Lib.hid hrb
 have HOB:=Lib.hid hob
 have HX:=Lib.hid hx0
 have HRT:=Lib.hid hrt0
 have HRL:=Lib.hid hrl0
 have HSM:=Lib.hid hSM
 have H7:=Lib.hid h7
 have HM:=Lib.hid hM
 clear hb0 s0 hvb hxb hrb hob hx0 hv0 hrt0 hrl0 hSM h7 hM
 generalize ((((w.alloc (.cells #[.int .i64 6,.bool false,.slice A1 n1 c1,.int .i64 0,.string ⟨#[]⟩,.slice LV P.length lcv,.slice KV P.length kcv] 28)).alloc (.cells #[v0,v1,v2,v3,v4,v5,v6] 28)).alloc (.cells #[.int .i64 0,.bool false,.slice none 0 0,.int .i64 0,.string ⟨#[]⟩,.slice none 0 0,.slice none 0 0] 28)).alloc (.cells #[.int .i64 6,.bool false,.slice none 0 0,.int .i64 0,.string ⟨#[]⟩,.slice none 0 0,.slice none 0 0] 28)) = w0 at *
 have hws0 : Hid (WS w0 S (M + 4) (M + 3) [] w0):=⟨none,0,none,0,fun _ => [],But.refl _ _,HOB.out,⟨rfl,.inl ⟨rfl,rfl⟩⟩,⟨rfl,.inl ⟨rfl,rfl⟩⟩,fun i hi => by simp at hi,fun i p hp => by simp at hp,fun p hp => by simp at hp⟩
 go_wp2_with fail
 go_loopw [8,9] (fun dv iv wr => ∃ (i : Nat) (dn : Bool) (acc : List (ByteArray × VT)),i ≤ P.length ∧ dv = .bool dn ∧ iv = .int .i64 (i : Int) ∧ Hid ((P.take i).foldl (wStep key x) ([],false) = (acc,dn)) ∧ Hid (WS w0 S (M + 4) (M + 3) acc wr) ∧ Hid (acc.length ≤ 2 * i)) (fun _ iv _ => P.length - (RowKit.intOf iv).toNat)
 case atStart => exact ⟨0,false,[],Nat.zero_le _,rfl,rfl,rfl,hws0,Nat.le_refl _⟩
 case round =>
  clear hws0
  obtain ⟨i,dn,acc,hi,rfl,rfl,HF,HW,HL⟩:=hrel
  have hbW : But (fun b => b = M + 3 ∨ M + 4 ≤ b) w0 wr:=by obtain ⟨_,_,_,_,_,h,-⟩:=HW.out; exact h
  have hvw:=(hbW.block M (by rw [HS0.out]; omega) (by omega)).trans HVB.out
  have c6 : wr.cell? ⟨M,6,none⟩ = some (.slice KV P.length kcv):=cell_at3 hvw rfl
  have HBW:=Lib.hid hbW
  have HVW:=Lib.hid hvw
  clear hbW hvw
  rcases Nat.lt_or_ge i P.length with hlt | hge
  ·obtain ⟨pr,hpr⟩ : ∃ pr,P[i]? = some pr:=⟨_,List.getElem?_eq_getElem hlt⟩
   obtain ⟨g,off,rfl,hgS,hck,hks⟩:=HRT.out.getD (k:=i) (by omega)
   have hprk : (P.map fun x => x.1).getD i ⟨#[]⟩ = pr.1:=by rw [List.getD_eq_getElem?_getD,List.getElem?_map,hpr]; rfl
   rw [hprk] at hck hks
   obtain ⟨gl,ofl,xv,ecs,rfl,hglS,hxv,hec7,hecell,hvin⟩:=HRL.out.at_ (i:=i) (by omega)
   have hxv2 : xv = pr.2:=by rw [List.getElem?_map,hpr] at hxv; injection hxv with hxv; exact hxv.symm
   subst hxv2
   obtain ⟨e0,e1,e2,e3,e4,e5,e6,rfl,he7⟩:=hvin.row7
   have hgM:=HSM.out g hgS
   have hglM:=HSM.out gl hglS
   have ck : wr.cell? ⟨g,off + i,none⟩ = some (.string pr.1):=HBW.out.cell_some hck (by show ¬ (g = M + 3 ∨ M + 4 ≤ g); omega)
   have HCE:=Lib.hid hecell
   have HCK:=Lib.hid hck
   have HVIN:=Lib.hid hvin
   have HE7:=Lib.hid he7
   have HPR:=Lib.hid hpr
   have HKS:=Lib.hid hks
   have hin : (i : Int) < (P.length : Int):=by omega
   have hi0 : (0 : Int) ≤ (i : Int):=by omega
   clear hvin he7 hpr hks hck hprk hxv hec7 hecell
   obtain ⟨ls,hls⟩ : ∃ b,Go.Op.bytesLess pr.1.toList key.toList = b:=⟨_,rfl⟩
   obtain ⟨eq,heq⟩ : ∃ b,(pr.1.toList == key.toList) = b:=⟨_,rfl⟩
   go_upto_region 6 with fail
   go_cut [28] from 18 to 28 (fun s28 wc => s28 = .bool (!dn && !ls) ∧ wr = wc)
   case first =>
    cases dn with
    | true =>
     clear hls heq
     go_wp2
     go_meet
     exact ⟨rfl,rfl⟩
    | false =>
     cases ls with
     | true =>
      have hls2 : Go.Op.bytesLess pr.1.toList key.toList = true:=hls
      go_wp2
      go_meet
      exact ⟨by simp,rfl⟩
     | false =>
      have hls2 : Go.Op.bytesLess pr.1.toList key.toList = false:=hls
      go_wp2
      go_meet
      exact ⟨by simp,rfl⟩
   case rest =>
    obtain ⟨rfl,rfl⟩:=hcut
    have HLS:=Lib.hid hls
    clear hls
    obtain ⟨tt,htt⟩ : ∃ t,Hid (t = (!dn && !ls)):=⟨_,rfl⟩
    rw [← htt.out]
    go_upto_if 28 with fail
    have hL1:=HL.out
    go_cut [8] from 29 to 40 (fun s8 wc => ∃ acc1,s8 = .bool (dn || !ls) ∧ Hid (acc1 = (if dn = false ∧ ls = false then acc ++ [(key,x)] else acc)) ∧ Hid (WS w0 S (M + 4) (M + 3) acc1 wc) ∧ Hid (acc1.length ≤ 2 * i + 1))
    case first =>
     cases tt with
     | false =>
      have hno:=ttNo7 htt.out
      have hor : (dn || !ls) = dn ∧ (if dn = false ∧ ls = false then acc ++ [(key,x)] else acc) = acc:=⟨hno.1,if_neg hno.2⟩
      go_wp2
      go_meet
      exact ⟨acc,by rw [hor.1],hor.2.symm,HW,by show _ ≤ _; omega⟩
     | true =>
       obtain ⟨rfl,rfl⟩:=ttYes7 htt.out
       obtain ⟨KA,kc,LA,lc,fs,hbw,hobW,hKW,hLW,hf7,hft,hks7⟩:=HW.out
       have hxw:=(HBW.out.block (M + 1) (by rw [HS0.out]; omega) (by omega)).trans HXB.out
       obtain ⟨x0,x1,x2,x3,x4,x5,x6⟩:=box7_of hxw
       have hszw : M + 4 ≤ wr.heap.size:=by have:=HBW.out.size; rw [HS0.out] at this; exact this
       have HO7:=Lib.hid hobW
       have HK7:=Lib.hid hKW
       have HL7:=Lib.hid hLW
       clear hobW hKW hLW hxw
       go_upto_region 7 with fail
       refine wp_region_held_drew (S:=fun V => V.cell? ⟨M + 1,0,none⟩ = some v0 ∧ V.cell? ⟨M + 1,1,none⟩ = some v1 ∧ V.cell? ⟨M + 1,2,none⟩ = some v2 ∧ V.cell? ⟨M + 1,3,none⟩ = some v3 ∧ V.cell? ⟨M + 1,4,none⟩ = some v4 ∧ V.cell? ⟨M + 1,5,none⟩ = some v5 ∧ V.cell? ⟨M + 1,6,none⟩ = some v6) (by kernel_rfl) ⟨x0,x1,x2,x3,x4,x5,x6⟩ (fun hHeld => ?_)
       (try simp only [List.size_toArray,List.length_cons,List.length_nil,Nat.reduceAdd,Array.replicate_succ,Array.replicate_zero,List.push_toArray,List.append_toArray,List.nil_append,List.cons_append])
       refine wpAnyH_take (i:=0) (oi:=⟨_,_,_,_,_,_⟩) (v:=?_) rfl (by kernel_rfl) (by kernel_rfl) (by kernel_rfl) (fun _ _ _ h => h) (Or.inl ⟨by rfl,?_⟩) (by assumption) ?_
       rotate_left
       ·intro w hSw
        (try dsimp only at hSw)
        go_split_ands
        go_simp
        try with_reducible rfl
       try simp only [Act.put,List.setIfInBounds_toArray,List.set_cons_zero,List.set_cons_succ]
       refine wpAnyH_take (i:=2) (oi:=⟨_,_,_,_,_,_⟩) (v:=?_) rfl (by kernel_rfl) (by kernel_rfl) (by kernel_rfl) (fun _ _ _ h => h) (Or.inl ⟨by rfl,?_⟩) (by assumption) ?_
       rotate_left
       ·intro w hSw
        (try dsimp only at hSw)
        go_split_ands
        go_simp
        try with_reducible rfl
       try simp only [Act.put,List.setIfInBounds_toArray,List.set_cons_zero,List.set_cons_succ]
       refine wpAnyH_take (i:=5) (oi:=⟨_,_,_,_,_,_⟩) (v:=?_) rfl (by kernel_rfl) (by kernel_rfl) (by kernel_rfl) (fun _ _ _ h => h) (Or.inl ⟨by rfl,?_⟩) (by assumption) ?_
       rotate_left
       ·intro w hSw
        (try dsimp only at hSw)
        go_split_ands
        go_simp
        try with_reducible rfl
       try simp only [Act.put,List.setIfInBounds_toArray,List.set_cons_zero,List.set_cons_succ]
       refine wpAnyH_take (i:=7) (oi:=⟨_,_,_,_,_,_⟩) (v:=?_) rfl (by kernel_rfl) (by kernel_rfl) (by kernel_rfl) (fun _ _ _ h => h) (Or.inl ⟨by rfl,?_⟩) (by assumption) ?_
       rotate_left
       ·intro w hSw
        (try dsimp only at hSw)
        go_split_ands
        go_simp
        try with_reducible rfl
       try simp only [Act.put,List.setIfInBounds_toArray,List.set_cons_zero,List.set_cons_succ]
       refine two_appS (s:=key) (v0:=v0) (v1:=v1) (v2:=v2) (v3:=v3) (v4:=v4) (v5:=v5) (v6:=v6) (N:=M + 4) (ob:=M + 3) (kn:=acc.length) (ln:=acc.length) (kc:=kc) (lc:=lc) (KA:=KA) (LA:=LA) (ks:=acc.map fun p => .string p.1) (xs:=flatC fs id acc.length) 30 32 33 39 35 37 38 40 29 31 7 34 36 7 (o1:=⟨_,_,_,_,_,_⟩) (o2:=⟨_,_,_,_,_,_⟩) (o3:=⟨_,_,_,_,_,_⟩) (o4:=⟨_,_,_,_,_,_⟩) (o5:=⟨_,_,_,_,_,_⟩) (r1:=⟨_,_,_,_,_,_⟩) (r2:=⟨_,_,_,_,_,_⟩) (r3:=⟨_,_,_,_,_,_⟩) (r4:=⟨_,_,_,_,_,_⟩) (r5:=⟨_,_,_,_,_,_⟩)
        rfl rfl rfl rfl rfl rfl rfl rfl rfl rfl rfl rfl rfl rfl rfl rfl rfl rfl rfl rfl rfl rfl rfl rfl rfl rfl rfl rfl rfl rfl rfl rfl rfl rfl rfl rfl rfl rfl rfl rfl
        (by kernel_rfl) (by kernel_rfl) (by kernel_rfl) (by kernel_rfl) (by kernel_rfl) (by kernel_rfl) (by kernel_rfl) (by kernel_rfl) (by kernel_rfl) rfl (by kernel_rfl) (by kernel_rfl) (by kernel_rfl) (by kernel_rfl) (by kernel_rfl) (by kernel_rfl) (by decide) (by decide) (by kernel_rfl) H7.out (fun V hV => ?_) ?_ (by omega) rfl ?_ ?_ ?_ (by omega) (by omega) ?_
       ·exact ⟨hV.cell_some x0 (by show ¬ (M + 1 = M + 3 ∨ M + 4 ≤ M + 1); omega),hV.cell_some x1 (by show ¬ (M + 1 = M + 3 ∨ M + 4 ≤ M + 1); omega),hV.cell_some x2 (by show ¬ (M + 1 = M + 3 ∨ M + 4 ≤ M + 1); omega),hV.cell_some x3 (by show ¬ (M + 1 = M + 3 ∨ M + 4 ≤ M + 1); omega),hV.cell_some x4 (by show ¬ (M + 1 = M + 3 ∨ M + 4 ≤ M + 1); omega),hV.cell_some x5 (by show ¬ (M + 1 = M + 3 ∨ M + 4 ≤ M + 1); omega),hV.cell_some x6 (by show ¬ (M + 1 = M + 3 ∨ M + 4 ≤ M + 1); omega)⟩
       ·exact hszw
       ·exact HO7.out
       ·exact HK7.out
       ·exact HL7.out
       intro f V KA' kc' LA' lc' hbV hobV hKV hLV
       simp only [putD,List.foldl_cons,List.foldl_nil,Act.put,List.setIfInBounds_toArray,List.set_cons_zero,List.set_cons_succ]
       generalize f 30 = u1
       generalize f 32 = u2
       generalize f 33 = u3
       generalize f 39 = u4
       generalize f 35 = u5
       generalize f 37 = u6
       generalize f 38 = u7
       generalize f 40 = u8
       have hbV2 : But (fun b => b = M + 3 ∨ M + 4 ≤ b) wr V:=(But.refl _ wr).drew.trans hbV
       have hxW:=HX.out.keep (w':=wr) fun p hp => HBW.out.cell (p:=p) (by rw [HS0.out]; have:=HSM.out _ hp; omega) (by have:=HSM.out _ hp; omega)
       have hpush:=WS.push (k:=key) (y:=x) hbw hf7 hft hks7 hbV2 hobV hKV hLV hxW (fun b h => by have:=HSM.out b h; omega) hk
       clear hbV hbV2 hobV hKV hLV hHeld x0 x1 x2 x3 x4 x5 x6
       go_wp2
       go_meet
       exact ⟨acc ++ [(key,x)],by simp,by show _ = _; simp,hpush,by show _ ≤ _; rw [List.length_append]; simp; omega⟩
    case rest =>
     obtain ⟨acc1,rfl,HA1,HW1,HL1⟩:=hcut
     have hst:=wStep_eq7 (x:=x) (acc:=acc) (dn:=dn) HLS.out heq
     have hfo:=foldl_snoc7 (key:=key) (x:=x) HPR.out (st:=([],false))
     rw [HF.out,hst,← HA1.out] at hfo
     have HFO:=Lib.hid hfo
     clear hst hfo c6 ck
     obtain ⟨KA,kc,LA,lc,fs,hbw,hobW,hKW,hLW,hf7,hft,hks7⟩:=HW1.out
     have hvw2:=(hbw.block M (by rw [HS0.out]; omega) (by omega)).trans HVB.out
     have c6:=cell_at3 (i:=6) (v:=.slice (some ⟨g,off,none⟩) P.length kcv) hvw2 rfl
     have c5:=cell_at3 (i:=5) (v:=.slice (some ⟨gl,ofl,none⟩) P.length lcv) hvw2 rfl
     have ck:=hbw.cell_some HCK.out (by show ¬ (g = M + 3 ∨ M + 4 ≤ g); omega)
     have HBW2:=Lib.hid hbw
     have HO7:=Lib.hid hobW
     have HK7:=Lib.hid hKW
     have HL7:=Lib.hid hLW
     have hL1':=HL1.out
     clear hvw2 hbw hobW hKW hLW HBW HVW
     cases eq with
     | true =>
      go_wp2
      exact ⟨⟨i + 1,dn || !ls,acc1,by omega,rfl,by go_num,by show _ = _; rw [HFO.out]; simp,HW1,by show _ ≤ _; omega⟩,by simp [RowKit.intOf]; omega⟩
     | false =>
      have hce : ∀ j u,j < 7 → [e0,e1,e2,e3,e4,e5,e6][j]? = some u → _:=fun j u hj hu => by
       have h:=HCE.out j hj
       rw [hu,← Nat.add_assoc] at h
       exact HBW2.out.cell_some h (by show ¬ (gl = M + 3 ∨ M + 4 ≤ gl); omega)
      have l0:=hce 0 e0 (by omega) rfl
      have l1:=hce 1 e1 (by omega) rfl
      have l2:=hce 2 e2 (by omega) rfl
      have l3:=hce 3 e3 (by omega) rfl
      have l4:=hce 4 e4 (by omega) rfl
      have l5:=hce 5 e5 (by omega) rfl
      have l6:=hce 6 e6 (by omega) rfl
      rw [Nat.add_zero] at l0
      have hszw:=HBW2.out.size
      rw [HS0.out] at hszw
      have hxW:=HVIN.out.keep fun p hp => HBW2.out.cell (p:=p) (by rw [HS0.out]; have:=HSM.out _ hp; omega) (by have:=HSM.out _ hp; omega)
      have HXW:=Lib.hid hxW
      clear hce hxW
      go_upto_region 10 with fail
      refine wp_region_held_drew (S:=fun V => V.cell? ⟨M,6,none⟩ = some (.slice (some ⟨g,off,none⟩) P.length kcv) ∧ V.cell? ⟨M,5,none⟩ = some (.slice (some ⟨gl,ofl,none⟩) P.length lcv) ∧ V.cell? ⟨g,off + i,none⟩ = some (.string pr.1) ∧ V.cell? ⟨gl,ofl + i * 7,none⟩ = some e0 ∧ V.cell? ⟨gl,ofl + i * 7 + 1,none⟩ = some e1 ∧ V.cell? ⟨gl,ofl + i * 7 + 2,none⟩ = some e2 ∧ V.cell? ⟨gl,ofl + i * 7 + 3,none⟩ = some e3 ∧ V.cell? ⟨gl,ofl + i * 7 + 4,none⟩ = some e4 ∧ V.cell? ⟨gl,ofl + i * 7 + 5,none⟩ = some e5 ∧ V.cell? ⟨gl,ofl + i * 7 + 6,none⟩ = some e6) (by kernel_rfl) ⟨c6,c5,ck,l0,l1,l2,l3,l4,l5,l6⟩ (fun hHeld => ?_)
      (try simp only [List.size_toArray,List.length_cons,List.length_nil,Nat.reduceAdd,Array.replicate_succ,Array.replicate_zero,List.push_toArray,List.append_toArray,List.nil_append,List.cons_append])
      refine wpAnyH_take (i:=0) (oi:=⟨_,_,_,_,_,_⟩) (v:=?_) rfl (by kernel_rfl) (by kernel_rfl) (by kernel_rfl) (fun _ _ _ h => h) (Or.inl ⟨by rfl,?_⟩) (by assumption) ?_
      rotate_left
      ·intro w hSw
       (try dsimp only at hSw)
       go_split_ands
       go_simp
       try with_reducible rfl
      try simp only [Act.put,List.setIfInBounds_toArray,List.set_cons_zero,List.set_cons_succ]
      refine wpAnyH_take (i:=2) (oi:=⟨_,_,_,_,_,_⟩) (v:=?_) rfl (by kernel_rfl) (by kernel_rfl) (by kernel_rfl) (fun _ _ _ h => h) (Or.inl ⟨by rfl,?_⟩) (by assumption) ?_
      rotate_left
      ·intro w hSw
       (try dsimp only at hSw)
       go_split_ands
       go_simp
       try with_reducible rfl
      try simp only [Act.put,List.setIfInBounds_toArray,List.set_cons_zero,List.set_cons_succ]
      refine wpAnyH_take (i:=3) (oi:=⟨_,_,_,_,_,_⟩) (v:=?_) rfl (by kernel_rfl) (by kernel_rfl) (by kernel_rfl) (fun _ _ _ h => h) (Or.inl ⟨by rfl,?_⟩) (by assumption) ?_
      rotate_left
      ·intro w hSw
       (try dsimp only at hSw)
       go_split_ands
       go_simp
       try with_reducible rfl
      try simp only [Act.put,List.setIfInBounds_toArray,List.set_cons_zero,List.set_cons_succ]
      refine wpAnyH_take (i:=4) (oi:=⟨_,_,_,_,_,_⟩) (v:=?_) rfl (by kernel_rfl) (by kernel_rfl) (by kernel_rfl) (fun _ _ _ h => h) (Or.inl ⟨by rfl,?_⟩) (by assumption) ?_
      rotate_left
      ·intro w hSw
       (try dsimp only at hSw)
       go_split_ands
       go_simp
       try with_reducible rfl
      try simp only [Act.put,List.setIfInBounds_toArray,List.set_cons_zero,List.set_cons_succ]
      refine wpAnyH_take (i:=5) (oi:=⟨_,_,_,_,_,_⟩) (v:=?_) rfl (by kernel_rfl) (by kernel_rfl) (by kernel_rfl) (fun _ _ _ h => h) (Or.inl ⟨by rfl,?_⟩) (by assumption) ?_
      rotate_left
      ·intro w hSw
       (try dsimp only at hSw)
       go_split_ands
       go_simp
       try with_reducible rfl
      try simp only [Act.put,List.setIfInBounds_toArray,List.set_cons_zero,List.set_cons_succ]
      refine wpAnyH_take (i:=6) (oi:=⟨_,_,_,_,_,_⟩) (v:=?_) rfl (by kernel_rfl) (by kernel_rfl) (by kernel_rfl) (fun _ _ _ h => h) (Or.inl ⟨by rfl,?_⟩) (by assumption) ?_
      rotate_left
      ·intro w hSw
       (try dsimp only at hSw)
       go_split_ands
       go_simp
       try with_reducible rfl
      try simp only [Act.put,List.setIfInBounds_toArray,List.set_cons_zero,List.set_cons_succ]
      refine wpAnyH_take (i:=9) (oi:=⟨_,_,_,_,_,_⟩) (v:=?_) rfl (by kernel_rfl) (by kernel_rfl) (by kernel_rfl) (fun _ _ _ h => h) (Or.inl ⟨by rfl,?_⟩) (by assumption) ?_
      rotate_left
      ·intro w hSw
       (try dsimp only at hSw)
       go_split_ands
       go_simp
       try with_reducible rfl
      try simp only [Act.put,List.setIfInBounds_toArray,List.set_cons_zero,List.set_cons_succ]
      refine wpAnyH_take (i:=11) (oi:=⟨_,_,_,_,_,_⟩) (v:=?_) rfl (by kernel_rfl) (by kernel_rfl) (by kernel_rfl) (fun _ _ _ h => h) (Or.inl ⟨by rfl,?_⟩) (by assumption) ?_
      rotate_left
      ·intro w hSw
       (try dsimp only at hSw)
       go_split_ands
       go_simp
       try with_reducible rfl
      try simp only [Act.put,List.setIfInBounds_toArray,List.set_cons_zero,List.set_cons_succ]
      refine wpAnyH_take (i:=12) (oi:=⟨_,_,_,_,_,_⟩) (v:=?_) rfl (by kernel_rfl) (by kernel_rfl) (by kernel_rfl) (fun _ _ _ h => h) (Or.inl ⟨by rfl,?_⟩) (by assumption) ?_
      rotate_left
      ·intro w hSw
       (try dsimp only at hSw)
       go_split_ands
       go_simp
       try with_reducible rfl
      try simp only [Act.put,List.setIfInBounds_toArray,List.set_cons_zero,List.set_cons_succ]
      refine wpAnyH_take (i:=13) (oi:=⟨_,_,_,_,_,_⟩) (v:=?_) rfl (by kernel_rfl) (by kernel_rfl) (by kernel_rfl) (fun _ _ _ h => h) (Or.inl ⟨by rfl,?_⟩) (by assumption) ?_
      rotate_left
      ·intro w hSw
       (try dsimp only at hSw)
       go_split_ands
       go_simp
       try with_reducible rfl
      try simp only [Act.put,List.setIfInBounds_toArray,List.set_cons_zero,List.set_cons_succ]
      refine wpAnyH_take (i:=14) (oi:=⟨_,_,_,_,_,_⟩) (v:=?_) rfl (by kernel_rfl) (by kernel_rfl) (by kernel_rfl) (fun _ _ _ h => h) (Or.inl ⟨by rfl,?_⟩) (by assumption) ?_
      rotate_left
      ·intro w hSw
       (try dsimp only at hSw)
       go_split_ands
       go_simp
       try with_reducible rfl
      try simp only [Act.put,List.setIfInBounds_toArray,List.set_cons_zero,List.set_cons_succ]
      refine wpAnyH_take (i:=15) (oi:=⟨_,_,_,_,_,_⟩) (v:=?_) rfl (by kernel_rfl) (by kernel_rfl) (by kernel_rfl) (fun _ _ _ h => h) (Or.inl ⟨by rfl,?_⟩) (by assumption) ?_
      rotate_left
      ·intro w hSw
       (try dsimp only at hSw)
       go_split_ands
       go_simp
       try with_reducible rfl
      try simp only [Act.put,List.setIfInBounds_toArray,List.set_cons_zero,List.set_cons_succ]
      refine two_appL (s:=pr.1) (v0:=e0) (v1:=e1) (v2:=e2) (v3:=e3) (v4:=e4) (v5:=e5) (v6:=e6) (N:=M + 4) (ob:=M + 3) (kn:=acc1.length) (ln:=acc1.length) (kc:=kc) (lc:=lc) (KA:=KA) (LA:=LA) (ks:=acc1.map fun p => .string p.1) (xs:=flatC fs id acc1.length) 49 55 56 66 58 64 65 67 48 54 7 57 63 7 (o1:=⟨_,_,_,_,_,_⟩) (o2:=⟨_,_,_,_,_,_⟩) (o3:=⟨_,_,_,_,_,_⟩) (o4:=⟨_,_,_,_,_,_⟩) (o5:=⟨_,_,_,_,_,_⟩) (r1:=⟨_,_,_,_,_,_⟩) (r2:=⟨_,_,_,_,_,_⟩) (r3:=⟨_,_,_,_,_,_⟩) (r4:=⟨_,_,_,_,_,_⟩) (r5:=⟨_,_,_,_,_,_⟩)
       rfl rfl rfl rfl rfl rfl rfl rfl rfl rfl rfl rfl rfl rfl rfl rfl rfl rfl rfl rfl rfl rfl rfl rfl rfl rfl rfl rfl rfl rfl rfl rfl rfl rfl rfl rfl rfl rfl rfl rfl
       (by kernel_rfl) (by kernel_rfl) (by kernel_rfl) (by kernel_rfl) (by kernel_rfl) (by kernel_rfl) (by kernel_rfl) (by kernel_rfl) (by kernel_rfl) rfl (by kernel_rfl) (by kernel_rfl) (by kernel_rfl) (by kernel_rfl) (by kernel_rfl) (by kernel_rfl) (by decide) (by decide) (by kernel_rfl) HE7.out (fun V hV => ?_) ?_ (by omega) rfl ?_ ?_ ?_ (by omega) (by omega) ?_
      ·exact ⟨hV.cell_some c6 (by show ¬ (M = M + 3 ∨ M + 4 ≤ M); omega),hV.cell_some c5 (by show ¬ (M = M + 3 ∨ M + 4 ≤ M); omega),hV.cell_some ck (by show ¬ (g = M + 3 ∨ M + 4 ≤ g); omega),hV.cell_some l0 (by show ¬ (gl = M + 3 ∨ M + 4 ≤ gl); omega),hV.cell_some l1 (by show ¬ (gl = M + 3 ∨ M + 4 ≤ gl); omega),hV.cell_some l2 (by show ¬ (gl = M + 3 ∨ M + 4 ≤ gl); omega),hV.cell_some l3 (by show ¬ (gl = M + 3 ∨ M + 4 ≤ gl); omega),hV.cell_some l4 (by show ¬ (gl = M + 3 ∨ M + 4 ≤ gl); omega),hV.cell_some l5 (by show ¬ (gl = M + 3 ∨ M + 4 ≤ gl); omega),hV.cell_some l6 (by show ¬ (gl = M + 3 ∨ M + 4 ≤ gl); omega)⟩
      ·exact hszw
      ·exact HO7.out
      ·exact HK7.out
      ·exact HL7.out
      intro f V KA' kc' LA' lc' hbV hobV hKV hLV
      simp only [putD,List.foldl_cons,List.foldl_nil,Act.put,List.setIfInBounds_toArray,List.set_cons_zero,List.set_cons_succ]
      generalize f 49 = u1
      generalize f 55 = u2
      generalize f 56 = u3
      generalize f 66 = u4
      generalize f 58 = u5
      generalize f 64 = u6
      generalize f 65 = u7
      generalize f 67 = u8
      have hpush:=WS.push (k:=pr.1) (y:=pr.2) HBW2.out hf7 hft hks7 ((But.refl _ _).drew.trans hbV) hobV hKV hLV HXW.out (fun b h => by have:=HSM.out b h; omega) HKS.out
      clear hbV hobV hKV hLV hHeld c6 c5 ck l0 l1 l2 l3 l4 l5 l6
      go_wp2
      exact ⟨⟨i + 1,dn || !ls,acc1 ++ [pr],by omega,rfl,by go_num,by show _ = _; rw [HFO.out]; simp,hpush,by show _ ≤ _; rw [List.length_append]; simp; omega⟩,by simp [RowKit.intOf]; omega⟩
  ·obtain rfl : i = P.length:=by omega
   have hF:=HF.out
   rw [List.take_length] at hF
   have hw1 : withP key x P = acc ++ (if dn = true then [] else [(key,x)]):=by unfold withP withF; rw [hF]
   have HW1:=Lib.hid hw1
   have hL1:=HL.out
   clear hF hw1 HF
   cases dn with
   | true =>
    obtain ⟨KA9,kc9,LA9,lc9,fs9,hb9,ho9,-⟩:=HW.out
    have hr9:=(hb9.block (M + 2) (by rw [HS0.out]; omega) (by omega)).trans HRB.out
    obtain ⟨o0,o1,o2,o3,o4,o5,o6⟩:=box7_of ho9
    obtain ⟨y0,y1,y2,y3,y4,y5,y6⟩:=box7_of hr9
    have fz : ∀ j,wr.frozen? ⟨M + 2,j,none⟩ = false:=fun j => frozen_of_row wr _ j _ _ hr9
    have HO9:=Lib.hid ho9
    have HB9:=Lib.hid hb9
    clear ho9 hb9 hr9
    go_wp2_with fail
    refine bodyPost_ret (v:=.agg #[.int .i64 6,.bool false,.slice none 0 0,.int .i64 0,.string ⟨#[]⟩,.slice LA9 acc.length lc9,.slice KA9 acc.length kc9]) (by simp [results,Tryz.results112,go_sem,y0,y1,y2,y3,y4,y5,y6,o0,o1,o2,o3,o4,o5,o6]) rfl ?_
    have hs1:=put7_but (But.refl (fun k => k = M + 2) wr) (b:=M + 2) (.inl rfl) (.int .i64 6) (.bool false) (.slice none 0 0) (.int .i64 0) (.string ⟨#[]⟩) (.slice LA9 acc.length lc9) (.slice KA9 acc.length kc9)
    generalize (((((((wr.setCell ⟨M + 2,0,none⟩ (.int .i64 6)).setCell ⟨M + 2,1,none⟩ (.bool false)).setCell ⟨M + 2,2,none⟩ (.slice none 0 0)).setCell ⟨M + 2,3,none⟩ (.int .i64 0)).setCell ⟨M + 2,4,none⟩ (.string ⟨#[]⟩)).setCell ⟨M + 2,5,none⟩ (.slice LA9 acc.length lc9)).setCell ⟨M + 2,6,none⟩ (.slice KA9 acc.length kc9)) = w7 at *
    have hsz9:=HB9.out.size
    rw [HS0.out] at hsz9
    obtain ⟨KA2,kc2,LA2,lc2,ho2,hv2⟩:=WS.vin (rs:=M + 2) (M:=M) HW.out hs1 (by omega) (by omega) (fun b h => by have:=HSM.out b h; omega) (by omega)
    rw [HO9.out] at ho2
    injection ho2 with ho2
    injection ho2 with ho2
    simp only [List.toArray_inj,Array.mk.injEq,List.cons.injEq,Value.slice.injEq,true_and,and_true] at ho2
    obtain ⟨⟨rfl,rfl⟩,rfl,rfl⟩:=ho2
    refine ⟨_,rfl,?_,?_⟩
    ·rw [show withP key x P = acc from HW1.out.trans (List.append_nil acc),HM.out]
     exact hv2
    ·rw [HM.out]
     exact ((HB0.out.trans (HB9.out.below (by rw [HS0.out]; omega) (fun k hk => by omega)))).trans (hs1.below (by omega) (fun k hk => by omega))
   | false =>
    obtain ⟨KA,kc,LA,lc,fs,hbw,hobW,hKW,hLW,hf7,hft,hks7⟩:=HW.out
    have hxw:=(HBW.out.block (M + 1) (by rw [HS0.out]; omega) (by omega)).trans HXB.out
    obtain ⟨x0,x1,x2,x3,x4,x5,x6⟩:=box7_of hxw
    have hszw : M + 4 ≤ wr.heap.size:=by have:=HBW.out.size; rw [HS0.out] at this; exact this
    have HO7:=Lib.hid hobW
    have HK7:=Lib.hid hKW
    have HL7:=Lib.hid hLW
    clear hobW hKW hLW hxw
    go_upto_region 12 with fail
    refine wp_region_held_drew (S:=fun V => V.cell? ⟨M + 1,0,none⟩ = some v0 ∧ V.cell? ⟨M + 1,1,none⟩ = some v1 ∧ V.cell? ⟨M + 1,2,none⟩ = some v2 ∧ V.cell? ⟨M + 1,3,none⟩ = some v3 ∧ V.cell? ⟨M + 1,4,none⟩ = some v4 ∧ V.cell? ⟨M + 1,5,none⟩ = some v5 ∧ V.cell? ⟨M + 1,6,none⟩ = some v6) (by kernel_rfl) ⟨x0,x1,x2,x3,x4,x5,x6⟩ (fun hHeld => ?_)
    (try simp only [List.size_toArray,List.length_cons,List.length_nil,Nat.reduceAdd,Array.replicate_succ,Array.replicate_zero,List.push_toArray,List.append_toArray,List.nil_append,List.cons_append])
    refine wpAnyH_take (i:=0) (oi:=⟨_,_,_,_,_,_⟩) (v:=?_) rfl (by kernel_rfl) (by kernel_rfl) (by kernel_rfl) (fun _ _ _ h => h) (Or.inl ⟨by rfl,?_⟩) (by assumption) ?_
    rotate_left
    ·intro w hSw
     (try dsimp only at hSw)
     go_split_ands
     go_simp
     try with_reducible rfl
    try simp only [Act.put,List.setIfInBounds_toArray,List.set_cons_zero,List.set_cons_succ]
    refine wpAnyH_take (i:=2) (oi:=⟨_,_,_,_,_,_⟩) (v:=?_) rfl (by kernel_rfl) (by kernel_rfl) (by kernel_rfl) (fun _ _ _ h => h) (Or.inl ⟨by rfl,?_⟩) (by assumption) ?_
    rotate_left
    ·intro w hSw
     (try dsimp only at hSw)
     go_split_ands
     go_simp
     try with_reducible rfl
    try simp only [Act.put,List.setIfInBounds_toArray,List.set_cons_zero,List.set_cons_succ]
    refine wpAnyH_take (i:=5) (oi:=⟨_,_,_,_,_,_⟩) (v:=?_) rfl (by kernel_rfl) (by kernel_rfl) (by kernel_rfl) (fun _ _ _ h => h) (Or.inl ⟨by rfl,?_⟩) (by assumption) ?_
    rotate_left
    ·intro w hSw
     (try dsimp only at hSw)
     go_split_ands
     go_simp
     try with_reducible rfl
    try simp only [Act.put,List.setIfInBounds_toArray,List.set_cons_zero,List.set_cons_succ]
    refine wpAnyH_take (i:=7) (oi:=⟨_,_,_,_,_,_⟩) (v:=?_) rfl (by kernel_rfl) (by kernel_rfl) (by kernel_rfl) (fun _ _ _ h => h) (Or.inl ⟨by rfl,?_⟩) (by assumption) ?_
    rotate_left
    ·intro w hSw
     (try dsimp only at hSw)
     go_split_ands
     go_simp
     try with_reducible rfl
    try simp only [Act.put,List.setIfInBounds_toArray,List.set_cons_zero,List.set_cons_succ]
    refine two_appS (s:=key) (v0:=v0) (v1:=v1) (v2:=v2) (v3:=v3) (v4:=v4) (v5:=v5) (v6:=v6) (N:=M + 4) (ob:=M + 3) (kn:=acc.length) (ln:=acc.length) (kc:=kc) (lc:=lc) (KA:=KA) (LA:=LA) (ks:=acc.map fun p => .string p.1) (xs:=flatC fs id acc.length) 71 73 74 80 76 78 79 81 70 72 7 75 77 7 (o1:=⟨_,_,_,_,_,_⟩) (o2:=⟨_,_,_,_,_,_⟩) (o3:=⟨_,_,_,_,_,_⟩) (o4:=⟨_,_,_,_,_,_⟩) (o5:=⟨_,_,_,_,_,_⟩) (r1:=⟨_,_,_,_,_,_⟩) (r2:=⟨_,_,_,_,_,_⟩) (r3:=⟨_,_,_,_,_,_⟩) (r4:=⟨_,_,_,_,_,_⟩) (r5:=⟨_,_,_,_,_,_⟩)
     rfl rfl rfl rfl rfl rfl rfl rfl rfl rfl rfl rfl rfl rfl rfl rfl rfl rfl rfl rfl rfl rfl rfl rfl rfl rfl rfl rfl rfl rfl rfl rfl rfl rfl rfl rfl rfl rfl rfl rfl
     (by kernel_rfl) (by kernel_rfl) (by kernel_rfl) (by kernel_rfl) (by kernel_rfl) (by kernel_rfl) (by kernel_rfl) (by kernel_rfl) (by kernel_rfl) rfl (by kernel_rfl) (by kernel_rfl) (by kernel_rfl) (by kernel_rfl) (by kernel_rfl) (by kernel_rfl) (by decide) (by decide) (by kernel_rfl) H7.out (fun V hV => ?_) ?_ (by omega) rfl ?_ ?_ ?_ (by omega) (by omega) ?_
    ·exact ⟨hV.cell_some x0 (by show ¬ (M + 1 = M + 3 ∨ M + 4 ≤ M + 1); omega),hV.cell_some x1 (by show ¬ (M + 1 = M + 3 ∨ M + 4 ≤ M + 1); omega),hV.cell_some x2 (by show ¬ (M + 1 = M + 3 ∨ M + 4 ≤ M + 1); omega),hV.cell_some x3 (by show ¬ (M + 1 = M + 3 ∨ M + 4 ≤ M + 1); omega),hV.cell_some x4 (by show ¬ (M + 1 = M + 3 ∨ M + 4 ≤ M + 1); omega),hV.cell_some x5 (by show ¬ (M + 1 = M + 3 ∨ M + 4 ≤ M + 1); omega),hV.cell_some x6 (by show ¬ (M + 1 = M + 3 ∨ M + 4 ≤ M + 1); omega)⟩
    ·exact hszw
    ·exact HO7.out
    ·exact HK7.out
    ·exact HL7.out
    intro f V KA' kc' LA' lc' hbV hobV hKV hLV
    simp only [putD,List.foldl_cons,List.foldl_nil,Act.put,List.setIfInBounds_toArray,List.set_cons_zero,List.set_cons_succ]
    generalize f 71 = u1
    generalize f 73 = u2
    generalize f 74 = u3
    generalize f 80 = u4
    generalize f 76 = u5
    generalize f 78 = u6
    generalize f 79 = u7
    generalize f 81 = u8
    have hbV2 : But (fun b => b = M + 3 ∨ M + 4 ≤ b) wr V:=(But.refl _ wr).drew.trans hbV
    have hxW:=HX.out.keep (w':=wr) fun p hp => HBW.out.cell (p:=p) (by rw [HS0.out]; have:=HSM.out _ hp; omega) (by have:=HSM.out _ hp; omega)
    have hpush:=WS.push (k:=key) (y:=x) hbw hf7 hft hks7 hbV2 hobV hKV hLV hxW (fun b h => by have:=HSM.out b h; omega) hk
    clear hbV hbV2 hobV hKV hLV hHeld x0 x1 x2 x3 x4 x5 x6 c6
    obtain ⟨acc2,hacc2⟩ : ∃ z,acc ++ [(key,x)] = z:=⟨_,rfl⟩
    have hl2 : acc2.length ≤ 20000:=by rw [← hacc2,List.length_append]; simp; omega
    have hw2 : withP key x P = acc2:=by rw [← hacc2]; exact HW1.out
    rw [hacc2] at hpush
    have HPU:=Lib.hid hpush
    have HW2:=Lib.hid hw2
    clear hpush hacc2 hw2
    obtain ⟨KA9,kc9,LA9,lc9,fs9,hb9,ho9,-⟩:=HPU.out
    have hr9:=(hb9.block (M + 2) (by rw [HS0.out]; omega) (by omega)).trans HRB.out
    obtain ⟨o0,o1,o2,o3,o4,o5,o6⟩:=box7_of ho9
    obtain ⟨y0,y1,y2,y3,y4,y5,y6⟩:=box7_of hr9
    have fz : ∀ j,V.frozen? ⟨M + 2,j,none⟩ = false:=fun j => frozen_of_row V _ j _ _ hr9
    have HO9:=Lib.hid ho9
    have HB9:=Lib.hid hb9
    clear ho9 hb9 hr9
    go_wp2_with fail
    refine bodyPost_ret (v:=.agg #[.int .i64 6,.bool false,.slice none 0 0,.int .i64 0,.string ⟨#[]⟩,.slice LA9 acc2.length lc9,.slice KA9 acc2.length kc9]) (by simp [results,Tryz.results112,go_sem,y0,y1,y2,y3,y4,y5,y6,o0,o1,o2,o3,o4,o5,o6]) rfl ?_
    have hs1:=put7_but (But.refl (fun k => k = M + 2) V) (b:=M + 2) (.inl rfl) (.int .i64 6) (.bool false) (.slice none 0 0) (.int .i64 0) (.string ⟨#[]⟩) (.slice LA9 acc2.length lc9) (.slice KA9 acc2.length kc9)
    generalize (((((((V.setCell ⟨M + 2,0,none⟩ (.int .i64 6)).setCell ⟨M + 2,1,none⟩ (.bool false)).setCell ⟨M + 2,2,none⟩ (.slice none 0 0)).setCell ⟨M + 2,3,none⟩ (.int .i64 0)).setCell ⟨M + 2,4,none⟩ (.string ⟨#[]⟩)).setCell ⟨M + 2,5,none⟩ (.slice LA9 acc2.length lc9)).setCell ⟨M + 2,6,none⟩ (.slice KA9 acc2.length kc9)) = w7 at *
    have hsz9:=HB9.out.size
    rw [HS0.out] at hsz9
    obtain ⟨KA2,kc2,LA2,lc2,ho2,hv2⟩:=WS.vin (rs:=M + 2) (M:=M) HPU.out hs1 (by omega) (by omega) (fun b h => by have:=HSM.out b h; omega) (by omega)
    rw [HO9.out] at ho2
    injection ho2 with ho2
    injection ho2 with ho2
    simp only [List.toArray_inj,Array.mk.injEq,List.cons.injEq,Value.slice.injEq,true_and,and_true] at ho2
    obtain ⟨⟨rfl,rfl⟩,rfl,rfl⟩:=ho2
    refine ⟨_,rfl,?_,?_⟩
    ·rw [HW2.out,HM.out]
     exact hv2
    ·rw [HM.out]
     exact ((HB0.out.trans (HB9.out.below (by rw [HS0.out]; omega) (fun k hk => by omega)))).trans (hs1.below (by omega) (fun k hk => by omega))
end Go.Proofs.YtkigpbkkhgabeaaGreatDoor
