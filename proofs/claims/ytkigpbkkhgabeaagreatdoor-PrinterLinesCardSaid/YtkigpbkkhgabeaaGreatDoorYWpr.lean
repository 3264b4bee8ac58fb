import Derived.Test.YtkigpbkkhgabeaaGreatDoorYWtx
import Derived.Test.YtkigpbkkhgabeaaGreatDoorRows
import Derived.Lib.LaidTab
import Derived.Lib.LaidU8
import Derived.MakeChecks
import Derived.Test.YtkigpbkkhgabeaaGreatDoorYNlimb
import Derived.Sort.CutIn
import Derived.Sort.LoopGhostIn
import Derived.TacticsInMore
import Derived.LoopNIn
import Derived.LoopIn
import Derived.OwnWalkIn
set_option linter.unusedVariables false
set_option linter.unusedSimpArgs false
namespace Go.Proofs.YtkigpbkkhgabeaaGreatDoor
open Go.RowKit
def deb64 : List Int:=[0,1,56,2,57,49,28,3,61,58,42,50,38,29,17,4,62,47,59,36,45,43,51,22,53,39,33,30,24,18,12,5,63,55,48,27,60,41,37,16,46,35,44,21,52,32,23,11,54,26,40,15,34,20,31,10,25,14,19,9,13,8,7,6]
theorem deb_global : Tryz.prog.globalNamed "math/bits.deBruijn64tab" = some 5 := by kernel_rfl
theorem deb_of {W : World} {laid : List (String × DataW Unit)} (hL : laidMetH Tryz.prog laid W) (h0 : (laid.all fun x => x.2.handleName?.isNone) = true) (h1 : ("math/bits.deBruijn64tab", Rows.laid_math_bits_deBruijn64tab) ∈ laid) : W.cell? ⟨5, 15, none⟩ = some (.int .u8 4) := by
 rw [MakeChecks.laidMetH_plain _ _ _ h0] at hL
 obtain ⟨g,t,cs,fuel,p,hg,ht,hv,hd⟩:=Lib.laidMet.reads hL h1
 have hg2 : g = 5:=by rw [deb_global] at hg; injection hg with hg; exact hg.symm
 subst hg2
 have ht2 : t = 194:=by
  have h2 : (Tryz.prog.globals[(5 : Nat)]?).map (·.type) = some 194:=by kernel_rfl
  rw [h2] at ht
  injection ht with ht
  exact ht.symm
 subst ht2
 have e : (Rows.laid_math_bits_deBruijn64tab : DataW Unit) = Lib.tabData .u8 deb64:=by kernel_rfl
 rw [e] at hd
 have h9:=Lib.cells_of_tab (e:=5) (n:=64) (by kernel_rfl) (by kernel_rfl) (by kernel_rfl) (by kernel_rfl) hd
 unfold World.var? at hv
 rw [deb_global] at hv
 simp only [Option.bind_some] at hv
 have h15 : cs[15]? = some (.int .u8 4):=by rw [← Array.getElem?_toList,h9]; rfl
 split at hv
 ·rename_i cs2 el fr hh
  injection hv with hv
  subst hv
  rw [Lib.cell_of_heap hh]
  exact h15
 ·cases hv
end Go.Proofs.YtkigpbkkhgabeaaGreatDoor
namespace Go.Proofs.YtkigpbkkhgabeaaGreatDoor
open Go.ChangeShapes Go.WideShapes Go.ChangeAt Go.RowKit
theorem gl_of {W : World} {laid : List (String × DataW Unit)} (hL : laidMetH Tryz.prog laid W) (h0 : (laid.all fun x => x.2.handleName?.isNone) = true) (h1 : ("math/bits.deBruijn64tab", Rows.laid_math_bits_deBruijn64tab) ∈ laid) (h2 : ("internal/strconv.uint64pow10", Rows.laid_internal_strconv_uint64pow10) ∈ laid)
  (h3 : ("unicode/utf8.first", Rows.laid_unicode_utf8_first) ∈ laid) (h4 : ("unicode/utf8.acceptRanges", Rows.laid_unicode_utf8_acceptRanges) ∈ laid) : Gl W.heap.size W := by
 have hd:=deb_of hL h0 h1
 have ht:=tab10_of hL h0 h2
 have hT:=tabs_of hL h0 h3 h4
 refine ⟨hT,ht,hd,cell_lt (hT.1 0 (by omega)),cell_lt (hT.2 0 (by omega)).1,?_,cell_lt hd⟩
 unfold Tab10 Lib.TabIs World.var? at ht
 rw [pow_global] at ht
 simp only [Option.bind_some] at ht
 rcases Nat.lt_or_ge (3 : Nat) W.heap.size with h' | h'
 ·exact h'
 ·rw [Array.getElem?_eq_none h'] at ht; cases ht
end Go.Proofs.YtkigpbkkhgabeaaGreatDoor
namespace Go.Proofs.YtkigpbkkhgabeaaGreatDoor
open Go.ChangeShapes Go.WideShapes Go.ChangeAt Go.RowKit
theorem row_capW {H : Type} {enc : TypeId × Value → H} {W : World} {fuel : Nat} {A : Option Addr} {n c : Nat} {y : DataW H × List MemPlace}
  (h : DataW.trod enc Tryz.prog W 0 (fun _ => true) true fuel 25 [.slice A n c] = some y) : n ≤ c:=by
 rcases DataW.trod_slice Tryz.underlying25 h with ⟨hcs,_⟩ | ⟨a,len,cap,elems,rest,n2,_,hcs,hy3,_,hlc,hcm,hel,hee,_,_⟩
 ·injection hcs with h1
  injection h1 with h1 h2
  subst h1 h2
  omega
 ·injection hcs with h1
  injection h1 with h1 h2
  subst h1 h2
  omega
end Go.Proofs.YtkigpbkkhgabeaaGreatDoor
namespace Go.Proofs.YtkigpbkkhgabeaaGreatDoor
open Go.RowKit Go.Lib
def Md (F : Value) (qc : Int → List UInt8) : Prop:=(F = plainF ∧ qc = quoteC) ∨ (F = asciiF ∧ qc = quoteA)
theorem ptext_c {F : Value} {qc : Int → List UInt8} (hM : Md F qc) {B pb : Nat} {bs : List UInt8} {room st o : Nat} (w : World) (hP : Pg B pb bs room st o F w) (hG : Gl B w) (hB : B ≤ w.heap.size) (s : ByteArray) (hT : isT s.data.toList = true) (hs : s.size ≤ 140737488355328)
  (hcap : bs.length + (txtL qc s).length ≤ 140737488355328 ∨ bs.length + room ≤ 140737488355328) :
  Calls Tryz.prog 37 #[pgP pb,.string s] w (Wr B pb bs room st o F w (txtL qc s)):=by
 rcases hM with ⟨rfl,rfl⟩ | ⟨rfl,rfl⟩
 ·exact textP_c w hP hG hB s hT hs hcap
 ·exact textA_c w hP hG hB s hT hs hcap
theorem repeat_one : ∀ n,Lib.repeatL [32] n = List.replicate n (32 : UInt8)
 | 0 => rfl
 | n + 1 => by
  show [32] ++ Lib.repeatL [32] n = _
  rw [repeat_one n]; rfl
theorem Wr.nil {B pb : Nat} {bs : List UInt8} {room st o : Nat} {F : Value} {w : World} (hP : Pg B pb bs room st o F w) : Wr B pb bs room st o F w [] (.returned (.tuple #[])) w :=
 .inl ⟨Nat.zero_le _,rfl,by simpa using hP,Soft.refl _ _ _⟩
set_option maxRecDepth 100000 in
set_option maxHeartbeats 2000000 in
theorem line_c {B pb : Nat} {bs : List UInt8} {room st o : Nat} {F : Value} (w : World) (hP : Pg B pb bs room st o F w) (hB : B ≤ w.heap.size) (hst : st ≤ 8) (ho : o ≤ 1000) (hcap : bs.length + room ≤ 140737488355328) :
  Calls Tryz.prog 75 #[pgP pb] w (Wr B pb bs room st o F w (lineL st o)):=by
 obtain ⟨c2,c3,c4,c5⟩:=hP.cells
 rcases Nat.eq_zero_or_pos st with h0 | h0
 ·have hl : lineL st o = []:=by unfold lineL; rw [if_pos h0]
  rw [hl]
  subst h0
  have HP:=Lib.hid hP
  clear hP hl c2 c4 c5
  go_enter Tryz.func75,Tryz.ntmps75
  go_wp2_with fail
  first | go_end0 | refine bodyPost_ret (results_none rfl _ _ _) rfl ?_
  exact Wr.nil HP.out
 ·have hl : lineL st o = 10 :: List.replicate (st * o) 32:=by unfold lineL; rw [if_neg (by omega)]
  rw [hl]
  obtain ⟨m,hm⟩ : ∃ m,st * o = m:=⟨_,rfl⟩
  have hm2 : m ≤ 8000:=by rw [← hm]; exact Nat.mul_le_mul hst ho
  have hmw : IntKind.i64.wrap ((st : Int) * (o : Int)) = (m : Int):=by
   rw [← Int.natCast_mul,hm]; exact IntWalk.i64_in _ (by omega)
  have hpos : (0 : Int) < (st : Int):=by omega
  rw [hm]
  clear hl hm
  have hrep : ∀ W,Calls Tryz.prog 106 #[.string ⟨#[32]⟩,.int .i64 (m : Int)] W fun e w' => e = .returned (.string ⟨(List.replicate m (32 : UInt8)).toArray⟩) ∧ Below W.heap.size W w':=fun W => by
   have:=Tryz.strings_Repeat ⟨#[32]⟩ m W (by omega) (by show 1 * m ≤ _; omega)
   rw [show (⟨#[32]⟩ : ByteArray).data.toList = [32] from rfl,repeat_one] at this
   exact this
  obtain ⟨R,hR⟩ : ∃ R : ByteArray,R = ⟨(List.replicate m (32 : UInt8)).toArray⟩:=⟨_,rfl⟩
  rw [← hR] at hrep
  have hRl : ((⟨#[10]⟩ : ByteArray) ++ R).data.toList = 10 :: List.replicate m 32:=by rw [hR,ByteArray.data_append]; simp
  have HRL:=Lib.hid hRl
  have HP:=Lib.hid hP
  have hRs : R.size = m:=by rw [hR]; simp [ByteArray.size]
  have hcat : ¬ (9223372036854775807 < 1 + m):=by omega
  clear hP hRl hR
  go_enter Tryz.func75,Tryz.ntmps75
  go_upto_region 1 with fail
  refine wp_region_held_drew (S:=fun V => V.cell? ⟨pb,3,none⟩ = some (.int .i64 (st : Int)) ∧ V.cell? ⟨pb,4,none⟩ = some (.int .i64 (o : Int))) (by kernel_rfl) ⟨c3,c4⟩ (fun hHeld => ?_)
  (try simp only [List.size_toArray,List.length_cons,List.length_nil,Nat.reduceAdd,Array.replicate_succ,Array.replicate_zero,List.push_toArray,List.append_toArray,List.nil_append,List.cons_append])
  refine wpAnyH_take (i:=0) (oi:=⟨_,_,_,_,_,_⟩) (v:=?_) rfl (by kernel_rfl) (by kernel_rfl) (by kernel_rfl) (fun _ _ _ h => h) (Or.inl ⟨by rfl,?_⟩) (by assumption) ?_
  rotate_left
  ·intro w hSw
   (try dsimp only at hSw)
   go_split_ands
   go_simp
   try with_reducible rfl
  try simp only [Act.put,List.setIfInBounds_toArray,List.set_cons_zero,List.set_cons_succ]
  refine wpAnyH_take (i:=1) (oi:=⟨_,_,_,_,_,_⟩) (v:=?_) rfl (by kernel_rfl) (by kernel_rfl) (by kernel_rfl) (fun _ _ _ h => h) (Or.inl ⟨by rfl,?_⟩) (by assumption) ?_
  rotate_left
  ·intro w hSw
   (try dsimp only at hSw)
   go_split_ands
   go_simp
   try with_reducible rfl
  try simp only [Act.put,List.setIfInBounds_toArray,List.set_cons_zero,List.set_cons_succ]
  refine wpAnyH_take (i:=2) (oi:=⟨_,_,_,_,_,_⟩) (v:=?_) rfl (by kernel_rfl) (by kernel_rfl) (by kernel_rfl) (fun _ _ _ h => h) (Or.inl ⟨by rfl,?_⟩) (by assumption) ?_
  rotate_left
  ·intro w hSw
   (try dsimp only at hSw)
   go_split_ands
   go_simp
   try with_reducible rfl
  try simp only [Act.put,List.setIfInBounds_toArray,List.set_cons_zero,List.set_cons_succ]
  refine wpAnyH_take (i:=3) (oi:=⟨_,_,_,_,_,_⟩) (v:=?_) rfl (by kernel_rfl) (by kernel_rfl) (by kernel_rfl) (fun _ _ _ h => h) (Or.inl ⟨by rfl,?_⟩) (by assumption) ?_
  rotate_left
  ·intro w hSw
   (try dsimp only at hSw)
   go_split_ands
   go_simp
   try with_reducible rfl
  try simp only [Act.put,List.setIfInBounds_toArray,List.set_cons_zero,List.set_cons_succ]
  refine wpAnyH_take (i:=4) (oi:=⟨_,_,_,_,_,_⟩) (v:=?_) rfl (by kernel_rfl) (by kernel_rfl) (by kernel_rfl) (fun _ _ _ h => h) (Or.inl ⟨by rfl,?_⟩) (by assumption) ?_
  rotate_left
  ·intro w hSw
   (try dsimp only at hSw)
   go_split_ands
   go_simp
   try with_reducible rfl
  try simp only [Act.put,List.setIfInBounds_toArray,List.set_cons_zero,List.set_cons_succ]
  refine wpAnyH_take (i:=5) (oi:=⟨_,_,_,_,_,_⟩) (v:=?_) rfl (by kernel_rfl) (by kernel_rfl) (by kernel_rfl) (fun _ _ _ h => h) (Or.inl ⟨by rfl,?_⟩) (by assumption) ?_
  rotate_left
  ·intro w hSw
   (try dsimp only at hSw)
   go_split_ands
   go_simp
   try with_reducible rfl
  try simp only [Act.put,List.setIfInBounds_toArray,List.set_cons_zero,List.set_cons_succ]
  refine wpAnyH_take (i:=6) (oi:=⟨_,_,_,_,_,_⟩) (v:=?_) rfl (by kernel_rfl) (by kernel_rfl) (by kernel_rfl) (fun _ _ _ h => h) (Or.inl ⟨by rfl,?_⟩) (by assumption) ?_
  rotate_left
  ·intro w hSw
   (try dsimp only at hSw)
   go_split_ands
   go_simp
   try with_reducible rfl
  try simp only [Act.put,List.setIfInBounds_toArray,List.set_cons_zero,List.set_cons_succ]
  refine wpAnyH_take (i:=7) (oi:=⟨_,_,_,_,_,_⟩) (v:=?_) rfl (by kernel_rfl) (by kernel_rfl) (by kernel_rfl) (fun _ _ _ h => h) (Or.inl ⟨by rfl,?_⟩) (by assumption) ?_
  rotate_left
  ·intro w hSw
   (try dsimp only at hSw)
   go_split_ands
   go_simp
   try with_reducible rfl
  try simp only [Act.put,List.setIfInBounds_toArray,List.set_cons_zero,List.set_cons_succ]
  refine wpAnyH_take (i:=8) (oi:=⟨_,_,_,_,_,_⟩) (v:=?_) rfl (by kernel_rfl) (by kernel_rfl) (by kernel_rfl) (fun _ _ _ h => h) (Or.inl ⟨by rfl,?_⟩) (by assumption) ?_
  rotate_left
  ·intro w hSw
   (try dsimp only at hSw)
   go_split_ands
   go_simp
   try with_reducible rfl
  try simp only [Act.put,List.setIfInBounds_toArray,List.set_cons_zero,List.set_cons_succ]
  refine wpAnyH_take (i:=9) (oi:=⟨_,_,_,_,_,_⟩) (v:=?_) rfl (by kernel_rfl) (by kernel_rfl) (by kernel_rfl) (fun _ _ _ h => h) (Or.inl ⟨by rfl,?_⟩) (by assumption) ?_
  rotate_left
  ·intro w hSw
   (try dsimp only at hSw)
   go_split_ands
   go_simp
   try with_reducible rfl
  try simp only [Act.put,List.setIfInBounds_toArray,List.set_cons_zero,List.set_cons_succ]
  refine wpAnyH_take (i:=10) (oi:=⟨_,_,_,_,_,_⟩) (v:=?_) rfl (by kernel_rfl) (by kernel_rfl) (by kernel_rfl) (fun _ _ _ h => h) (Or.inl ⟨by rfl,?_⟩) (by assumption) ?_
  rotate_left
  ·intro w hSw
   (try dsimp only at hSw)
   go_split_ands
   go_simp
   try with_reducible rfl
  try simp only [Act.put,List.setIfInBounds_toArray,List.set_cons_zero,List.set_cons_succ]
  refine wpAnyH_take (i:=11) (oi:=⟨_,_,_,_,_,_⟩) (v:=?_) rfl (by kernel_rfl) (by kernel_rfl) (by kernel_rfl) (fun _ _ _ h => h) (Or.inl ⟨by rfl,?_⟩) (by assumption) ?_
  rotate_left
  ·intro w hSw
   (try dsimp only at hSw)
   go_split_ands
   go_simp
   try with_reducible rfl
  try simp only [Act.put,List.setIfInBounds_toArray,List.set_cons_zero,List.set_cons_succ]
  refine wpAnyH_ready (rs:=[12]) (by kernel_rfl) (by simp) (AllReadyH.cons (o:=⟨_,_,_,_,_,_⟩) rfl (fun K hK => ?_) AllReadyH.nil)
  go_simp
  refine (hrep _).mono ?_
  rintro e w2 ⟨rfl,hb2⟩
  (try dsimp only)
  have hb2' : But (fun _ => False) w w2:=((But.refl _ w).drew).trans (But.of hb2)
  have hP2:=HP.out.stay0 hb2'
  obtain ⟨-,e3,e4,-⟩:=hP2.cells
  refine hK _ _ ⟨e3,e4⟩ (fun hHeld2 => ?_)
  clear hK K hHeld
  try simp only [Act.put,List.setIfInBounds_toArray,List.set_cons_zero,List.set_cons_succ]
  refine wpAnyH_take (i:=13) (oi:=⟨_,_,_,_,_,_⟩) (v:=?_) rfl (by kernel_rfl) (by kernel_rfl) (by kernel_rfl) (fun _ _ _ h => h) (Or.inl ⟨by rfl,?_⟩) (by assumption) ?_
  rotate_left
  ·intro w hSw
   (try dsimp only at hSw)
   go_split_ands
   go_simp
   try with_reducible rfl
  try simp only [Act.put,List.setIfInBounds_toArray,List.set_cons_zero,List.set_cons_succ]
  refine wpAnyH_ready (rs:=[14]) (by kernel_rfl) (by simp) (AllReadyH.cons (o:=⟨_,_,_,_,_,_⟩) rfl (fun K hK => ?_) AllReadyH.nil)
  go_simp
  refine (putL_c w2 hP2 _ _ HRL.out (by rw [List.length_cons,List.length_replicate]; omega) (Nat.le_trans hB hb2'.size)).mono ?_
  rintro e w3 (⟨hr3,rfl,hP3,hS3⟩ | ⟨hr3,rfl,hS3⟩)
  case inr => exact ⟨rfl,Wr.no hr3 ((Soft.of0 hb2').trans hS3)⟩
  (try dsimp only)
  obtain ⟨-,e3,e4,-⟩:=hP3.cells
  refine hK _ _ ⟨e3,e4⟩ (fun hHeld3 => ?_)
  clear hK K hHeld2
  try simp only [Act.put,List.setIfInBounds_toArray,List.set_cons_zero,List.set_cons_succ]
  refine wpAnyH_done (by kernel_rfl) ?_ _
  have HP3:=Lib.hid hP3
  have HS3:=Lib.hid ((Soft.of0 hb2').trans hS3)
  clear hP3 hS3 hP2 hb2' hHeld3
  go_wp2_with fail
  first | go_end0 | refine bodyPost_ret (results_none rfl _ _ _) rfl ?_
  exact Wr.done hr3 HP3.out HS3.out
def keyL (qc : Int → List UInt8) (st : Nat) (k : ByteArray) : List UInt8:=txtL qc k ++ ([58] ++ (if st = 0 then [] else [32]))
set_option maxRecDepth 100000 in
set_option maxHeartbeats 2000000 in
theorem pkey_c {F : Value} {qc : Int → List UInt8} (hM : Md F qc) {B pb : Nat} {bs : List UInt8} {room st o : Nat} (w : World) (hP : Pg B pb bs room st o F w) (hG : Gl B w) (hB : B ≤ w.heap.size) (s : ByteArray) (hT : isT s.data.toList = true) (hs : s.size ≤ 140737488355328)
  (hcap : bs.length + room ≤ 140737488355328) :
  Calls Tryz.prog 76 #[pgP pb,.string s] w (Wr B pb bs room st o F w (keyL qc st s)):=by
 unfold keyL
 obtain ⟨T,hTT⟩ : ∃ T,txtL qc s = T:=⟨_,rfl⟩
 have ht:=ptext_c hM w hP hG hB s hT hs (.inr hcap)
 rw [hTT] at ht ⊢
 have HP:=Lib.hid hP
 obtain ⟨sp,hsp⟩ : ∃ sp : List UInt8,(if st = 0 then [] else [32]) = sp:=⟨_,rfl⟩
 rw [hsp]
 obtain ⟨O,hO⟩ : ∃ O,T ++ ([58] ++ sp) = O:=⟨_,rfl⟩
 rw [hO]
 have HSP:=Lib.hid hsp
 have HO:=Lib.hid hO
 clear hP hTT hG hsp hO
 go_enter Tryz.func76,Tryz.ntmps76
 go_wp2_with fail
 refine ht.mono ?_
 rintro e w1 (⟨hr1,rfl,hP1,hS1⟩ | ⟨hr1,rfl,hS1⟩)
 case inr =>
  go_wp2_with fail
  rw [← HO.out]
  exact ⟨rfl,Wr.fail _ hr1 hS1⟩
 have HP1:=Lib.hid hP1
 have HS1:=Lib.hid hS1
 clear hP1 hS1 ht
 go_wp2_with fail
 refine (putL_c w1 HP1.out ⟨#[58]⟩ [58] rfl (by rw [List.length_append,List.length_singleton]; omega) (Nat.le_trans hB HS1.out.size)).mono ?_
 rintro e w2 (⟨hr2,rfl,hP2,hS2⟩ | ⟨hr2,rfl,hS2⟩)
 case inr =>
  go_wp2_with fail
  rw [← HO.out]
  exact ⟨rfl,Wr.step hr1 HS1.out (Wr.fail _ hr2 hS2)⟩
 have HP2:=Lib.hid hP2
 have HS2:=Lib.hid hS2
 obtain ⟨-,c3,-,-⟩:=hP2.cells
 clear hP2 hS2
 rcases Nat.eq_zero_or_pos st with h0 | h0
 ·subst h0
  go_wp2_with fail
  first | go_end0 | refine bodyPost_ret (results_none rfl _ _ _) rfl ?_
  rw [← HO.out,← (show ([] : List UInt8) = sp from HSP.out)]
  exact Wr.step hr1 HS1.out (Wr.step hr2 HS2.out (Wr.nil HP2.out))
 ·have hpos : (0 : Int) < (st : Int):=by omega
  have hs32 : [32] = sp:=by rw [← HSP.out,if_neg (show ¬ st = 0 by omega)]
  have HS32:=Lib.hid hs32
  clear hs32
  go_wp2_with fail
  refine (putL_c w2 HP2.out ⟨#[32]⟩ [32] rfl (by rw [List.length_singleton] at hr2; rw [List.length_append,List.length_append,List.length_singleton,List.length_singleton]; omega) (Nat.le_trans hB (HS1.out.trans HS2.out).size)).mono ?_
  rintro e w3 (⟨hr3,rfl,hP3,hS3⟩ | ⟨hr3,rfl,hS3⟩)
  case inr =>
   go_wp2_with fail
   rw [← HO.out,← HS32.out]
   exact ⟨rfl,Wr.step hr1 HS1.out (Wr.step hr2 HS2.out (Wr.no hr3 hS3))⟩
  have HP3:=Lib.hid hP3
  have HS3:=Lib.hid hS3
  clear hP3 hS3
  go_wp2_with fail
  first | go_end0 | refine bodyPost_ret (results_none rfl _ _ _) rfl ?_
  rw [← HO.out,← HS32.out]
  exact Wr.step hr1 HS1.out (Wr.step hr2 HS2.out (Wr.done hr3 HP3.out HS3.out))
end Go.Proofs.YtkigpbkkhgabeaaGreatDoor
namespace Go.Proofs.YtkigpbkkhgabeaaGreatDoor
open Go.RowKit Go.Lib
attribute [local go_sem] Oper.semAt_some
def entL : VT → List (ByteArray × VT)
 | .mk k _ _ _ _ l ks => if k = 6 then ks.zip l else l.map fun y => (⟨#[]⟩,y)
theorem entL_mk (k : Int) (n : Bool) (x : List Nat) (e : Int) (t : ByteArray) (l : List VT) (ks : List ByteArray) : entL (.mk k n x e t l ks) = if k = 6 then ks.zip l else l.map fun y => (⟨#[]⟩,y):=rfl
def EncE (S : Nat → Prop) (W : World) (p : ByteArray × VT) (vs : Array Value) : Prop:=∃ cs : List Value,vs = #[.string p.1,.agg cs.toArray] ∧ VIn W S p.2 cs
theorem entries_c (cs : Array Value) (w : World) : Calls Tryz.prog 74 #[.agg cs] w fun e w' => e = .returned (.func (.func 107) #[] #[.pointer (some ⟨w.heap.size,0,none⟩)]) ∧ w' = w.alloc (.cells cs 28):=by
 have hmf : ∀ (fn : Fn) (first cap : Array Value) (w : World),(Instr.makeFunc fn first cap).run Tryz.prog w = .ok (.func fn first cap) w:=fun _ _ _ _ => rfl
 go_enter Tryz.func74,Tryz.ntmps74
 go_wp2
 go_ret
 exact ⟨rfl,rfl⟩
set_option maxRecDepth 100000 in
set_option maxHeartbeats 4000000 in
theorem entries1_iter {eb : Nat} {S : Nat → Prop} {x : VT} {cs : List Value} (W : World) (hbox : W.heap[eb]? = some (.cells cs.toArray 28)) (hx : VIn W S x cs) (hS : ∀ b,S b → b < W.heap.size) (hk : x.kind = 5 ∨ x.kind = 6) (hkl : x.kind = 6 → x.keys.length = x.list.length) (hln : x.list.length ≤ 4096) :
  IterP Tryz.prog 107 #[.pointer (some ⟨eb,0,none⟩)] (EncE S) (fun k => S k ∨ k = eb) (entL x) W:=by
 intro l J Jp hJ h0 hY
 refine callsIn_of_wp Tryz.func107 rfl trivial ?_ rfl
 simp only [Tryz.ntmps107,List.size_toArray,List.length_cons,List.length_nil,Nat.reduceAdd,Nat.reduceSub,Array.replicate_succ,Array.replicate_zero,List.push_toArray,List.append_toArray,List.nil_append,List.cons_append]
 have hebl : eb < W.heap.size:=(Array.getElem?_eq_some_iff.1 hbox).1
 have HJ:=Lib.hid hJ
 have H0:=Lib.hid h0
 have HY:=Lib.hid hY
 have HX:=Lib.hid hx
 have HBOX:=Lib.hid hbox
 have HS:=Lib.hid hS
 clear hJ h0 hY
 obtain ⟨k,neg,xs,e,t,li,ks,hxk⟩ : ∃ k neg xs e t li ks,x = VT.mk k neg xs e t li ks:=by cases x; exact ⟨_,_,_,_,_,_,_,rfl⟩
 rw [hxk] at hx hk hkl hln
 obtain ⟨A,n,c,LA,ln,lc,KA,kn,kc,rfl,-,-,-,hrl,hrk,-⟩:=hx.parts
 obtain ⟨x0,x1,x2,x3,x4,x5,x6⟩:=box7_of hbox
 have hk56 : k = 5 ∨ k = 6:=hk
 have hkl' : k = 6 → kn = ln:=fun h => by have h1:=hkl h; have h2:=hrl.1; have h3:=hrk.1; simp only [VT.list,VT.keys] at h1; omega
 have hlnb : ln ≤ 4096:=by have h2:=hrl.1; simp only [VT.list] at hln; omega
 obtain ⟨es,hes⟩ : ∃ es,entL x = es:=⟨_,rfl⟩
 have hesl : es.length = ln:=by
  rw [← hes,hxk,entL_mk]
  have h2:=hrl.1
  have h3:=hrk.1
  split
  ·rename_i h6
   have:=hkl' h6
   rw [List.length_zip]; omega
  ·rw [List.length_map]; omega
 have heg : ∀ (j : Nat) (y : VT),li[j]? = some y → j < ln → ∃ ke,es[j]? = some (ke,y) ∧ (k = 5 → ke = ⟨#[]⟩) ∧ (k = 6 → ks[j]? = some ke):=fun j y hy hj => by
  rw [← hes,hxk,entL_mk]
  split
  ·rename_i h6
   have h1:=hkl' h6
   have h3:=hrk.1
   have hkj : ks[j]? = some ks[j]:=List.getElem?_eq_getElem (by omega)
   refine ⟨ks[j],?_,fun h5 => by omega,fun _ => hkj⟩
   rw [List.getElem?_zip_eq_some]
   exact ⟨hkj,hy⟩
  ·rename_i h6
   exact ⟨⟨#[]⟩,by rw [List.getElem?_map,hy]; rfl,fun _ => rfl,fun h => absurd h h6⟩
 rw [hes] at HY ⊢
 have HRL:=Lib.hid hrl
 have HRK:=Lib.hid hrk
 have HEG:=Lib.hid heg
 have HESL:=Lib.hid hesl
 have HKL:=Lib.hid hkl'
 have HXK:=Lib.hid hxk
 clear hrl hrk heg hesl hes hkl' hkl hln hk hxk hx
 gi_wp2_with fail
 clear x0 x1 x2 x3 x4 x5 x6
 gi_loopw [9] (fun iv wr => ∃ j : Nat,j ≤ ln ∧ iv = .int .i64 (j : Int) ∧ Hid (J (es.take j) wr) ∧ Hid (KeptK (fun k => S k ∨ k = eb) W wr)) (fun iv _ => ln - (RowKit.intOf iv).toNat)
 case atStart => exact ⟨0,Nat.zero_le _,rfl,H0.out _ (But.refl _ _),KeptK.refl _ _⟩
 case round =>
  obtain ⟨j,hj,rfl,hJk,hkp⟩:=hrel
  have hwr:=(hkp.out.block eb (.inr rfl)).trans HBOX.out
  obtain ⟨y0,y1,y2,y3,y4,y5,y6⟩:=box7_of hwr
  have hslt : ∀ b,S b → b < wr.heap.size:=fun b hb => Nat.lt_of_lt_of_le (HS.out b hb) hkp.out.size
  have hebw : eb < wr.heap.size:=(Array.getElem?_eq_some_iff.1 hwr).1
  have hvw : ∀ p : Addr,S p.block → wr.cell? p = W.cell? p:=fun p hp => World.cell?_of_block (hkp.out.block _ (.inl hp))
  by_cases hjn : j < ln
  ·have hjlt : (j : Int) < (ln : Int):=by omega
   have hj0 : (0 : Int) ≤ (j : Int):=by omega
   have hjt : ((j : Int)).toNat = j:=by omega
   have hjw : IntKind.i64.wrap ((j : Int) + 1) = (j : Int) + 1:=IntWalk.i64_in _ (by omega)
   obtain ⟨b,off,x2,cs2,rfl,hSb,hx2,h7,hcells,hvx⟩:=HRL.out.at_ hjn
   obtain ⟨k2,neg2,A2,n2,c2,e2,t2,LA2,ln2,lc2,KA2,kn2,kc2,rfl,-,-⟩:=hvx.seven
   have hcw : ∀ a,a < 7 → wr.cell? ⟨b,off + (j * 7 + a),none⟩ = _:=fun a ha => (hvw ⟨b,off + (j * 7 + a),none⟩ hSb).trans (hcells a ha)
   have d0 : wr.cell? ⟨b,off + j * 7,none⟩ = some (.int .i64 k2):=hcw 0 (by omega)
   have d1 : wr.cell? ⟨b,off + j * 7 + 1,none⟩ = some (.bool neg2):=hcw 1 (by omega)
   have d2 : wr.cell? ⟨b,off + j * 7 + 2,none⟩ = some (.slice A2 n2 c2):=hcw 2 (by omega)
   have d3 : wr.cell? ⟨b,off + j * 7 + 3,none⟩ = some (.int .i64 e2):=hcw 3 (by omega)
   have d4 : wr.cell? ⟨b,off + j * 7 + 4,none⟩ = some (.string t2):=hcw 4 (by omega)
   have d5 : wr.cell? ⟨b,off + j * 7 + 5,none⟩ = some (.slice LA2 ln2 lc2):=hcw 5 (by omega)
   have d6 : wr.cell? ⟨b,off + j * 7 + 6,none⟩ = some (.slice KA2 kn2 kc2):=hcw 6 (by omega)
   obtain ⟨ke,hge,hke5,hke6⟩:=HEG.out j x2 hx2 hjn
   have HVX:=Lib.hid hvx
   have HGE:=Lib.hid hge
   clear hcw hcells hx2 h7 hvx hge
   obtain ⟨nb,hnb⟩ : ∃ nb,wr.heap.size = nb:=⟨_,rfl⟩
   have hz:=World.alloc_heap_new wr (.cells #[.int .i64 0,.bool false,.slice none 0 0,.int .i64 0,.string ⟨#[]⟩,.slice none 0 0,.slice none 0 0] 28)
   rw [hnb] at hz
   obtain ⟨z0,z1,z2,z3,z4,z5,z6⟩:=box7_of hz
   have hfz : ∀ i,(wr.alloc (.cells #[.int .i64 0,.bool false,.slice none 0 0,.int .i64 0,.string ⟨#[]⟩,.slice none 0 0,.slice none 0 0] 28)).frozen? ⟨nb,i,none⟩ = false:=fun i => by simp [World.frozen?,hz]
   have f0:=hfz 0
   have f1:=hfz 1
   have f2:=hfz 2
   have f3:=hfz 3
   have f4:=hfz 4
   have f5:=hfz 5
   have f6:=hfz 6
   clear hfz
   have hm:=World.alloc_heap_new wr (.cells #[.int .i64 k2,.bool neg2,.slice A2 n2 c2,.int .i64 e2,.string t2,.slice LA2 ln2 lc2,.slice KA2 kn2 kc2] 28)
   rw [hnb] at hm
   have hb3 : But (fun _ => False) wr (wr.alloc (.cells #[.int .i64 k2,.bool neg2,.slice A2 n2 c2,.int .i64 e2,.string t2,.slice LA2 ln2 lc2,.slice KA2 kn2 kc2] 28)):=(But.refl _ _).alloc _
   gi_upto_region 3 with fail
   clear z0 z1 z2 z3 z4 z5 z6 f0 f1 f2 f3 f4 f5 f6 hz d0 d1 d2 d3 d4 d5 d6 y0 y1 y2 y3 y4 y5 y6
   generalize (wr.alloc (.cells #[.int .i64 k2,.bool neg2,.slice A2 n2 c2,.int .i64 e2,.string t2,.slice LA2 ln2 lc2,.slice KA2 kn2 kc2] 28)) = w3 at *
   obtain ⟨z0,z1,z2,z3,z4,z5,z6⟩:=box7_of hm
   obtain ⟨y0,y1,y2,y3,y4,y5,y6⟩:=box7_of ((hb3.block eb hebw (fun h => h)).trans hwr)
   have hkp3 : KeptK (fun k => S k ∨ k = eb) W w3:=hkp.out.trans (KeptK.of_but hb3 (fun q hq => hq.elim (hslt q) (fun h => by omega)))
   have hj3 : J (es.take j) w3:=HJ.out _ _ _ hJk.out hb3
   have hsplit : es = es.take j ++ (ke,x2) :: es.drop (j + 1):=by
    have h1:=(List.getElem?_eq_some_iff.1 HGE.out)
    obtain ⟨h2,h3⟩:=h1
    rw [← h3,List.getElem_cons_drop,List.take_append_drop]
   have hev : EncE S w3 (ke,x2) #[.string ke,.agg #[.int .i64 k2,.bool neg2,.slice A2 n2 c2,.int .i64 e2,.string t2,.slice LA2 ln2 lc2,.slice KA2 kn2 kc2]]:=⟨_,rfl,HVX.out.keep fun p hp => (World.cell?_of_block (hb3.block _ (hslt _ hp) (fun h => h))).trans (hvw p hp)⟩
   obtain ⟨fn,tmps,assign,body,hy,hR⟩:=HY.out _ _ _ w3 _ hj3 hkp3 hsplit hev
   have htk : es.take j ++ [(ke,x2)] = es.take (j + 1):=by
    rw [List.take_add_one,HGE.out]; rfl
   rw [htk] at hR
   have HKP3:=Lib.hid hkp3
   have HR:=Lib.hid hR
   clear hj3 hsplit hev htk hkp3 hR hm hb3 hwr hJk
   rcases hk56 with rfl | rfl
   ·have hke:=hke5 rfl
    subst hke
    gi_wp2_with fail
    refine ⟨rfl,?_⟩
    refine HR.out.mono ?_
    rintro e9 W9 (⟨rfl,hJ9,hk9⟩ | ⟨ch,rfl,hJp⟩)
    ·gi_wp2
     exact ⟨⟨j + 1,by omega,by go_num,hJ9,HKP3.out.trans hk9⟩,by simp [RowKit.intOf]; omega⟩
    ·exact ⟨rfl,.inr ⟨ch,rfl,hJp⟩⟩
   ·obtain ⟨b6,off6,s6,rfl,hSb6,hs6,hc6⟩:=HRK.out.at_ (show j < kn by have:=HKL.out rfl; omega)
    have hse : s6 = ke:=by have:=hke6 rfl; rw [hs6] at this; injection this
    subst hse
    have hjk : (j : Int) < (kn : Int):=by have:=HKL.out rfl; omega
    have hc63 : w3.cell? ⟨b6,off6 + j,none⟩ = some (.string s6):=(World.cell?_of_block (HKP3.out.block _ (.inl hSb6))).trans hc6
    clear hke5 hke6
    gi_wp2_with fail
    refine ⟨rfl,?_⟩
    refine HR.out.mono ?_
    rintro e9 W9 (⟨rfl,hJ9,hk9⟩ | ⟨ch,rfl,hJp⟩)
    ·gi_wp2
     exact ⟨⟨j + 1,by omega,by go_num,hJ9,HKP3.out.trans hk9⟩,by simp [RowKit.intOf]; omega⟩
    ·exact ⟨rfl,.inr ⟨ch,rfl,hJp⟩⟩
  ·have hjn2 : ¬ (j : Int) < (ln : Int):=by omega
   obtain rfl : j = ln:=by omega
   have hfin : es.take j = es:=List.take_of_length_le (by have:=HESL.out; omega)
   have hJk2:=hJk.out
   rw [hfin] at hJk2
   have HJK2:=Lib.hid hJk2
   clear hJk2 hJk hwr
   gi_wp2_with fail
   go_end0
   exact .inl ⟨⟨_,rfl⟩,HJK2.out⟩
end Go.Proofs.YtkigpbkkhgabeaaGreatDoor
namespace Go.Proofs.YtkigpbkkhgabeaaGreatDoor
open Go.Lib
def pcE (qc : Int → List UInt8) (nt : Bool → List Nat → Int → List UInt8) (st o : Nat) (k6 : Bool) (p : ByteArray × VT) : List UInt8:=(if k6 then keyL qc st p.1 else []) ++ prV qc nt st (o + 1) p.2
def leadE (st o : Nat) (first : Bool) (out : List UInt8) : List UInt8:=(if first then [] else [44]) ++ (lineL st (o + 1) ++ out)
def seqE (st o : Nat) : Bool → List (List UInt8) → List UInt8
 | _,[] => []
 | f,x :: r => leadE st o f x ++ seqE st o false r
theorem seqE_snoc (st o : Nat) (x : List UInt8) : ∀ (l : List (List UInt8)) (f : Bool),seqE st o f (l ++ [x]) = seqE st o f l ++ leadE st o (f && l.isEmpty) x
 | [],f => by simp [seqE]
 | y :: l,f => by
  show leadE st o f y ++ seqE st o false (l ++ [x]) = _
  rw [seqE_snoc st o x l false]
  simp [seqE]
theorem itT_seq {α : Type} (st o : Nat) (en : UInt8) : ∀ (l : List (α × List UInt8)),itT st o en false l = seqE st o false (l.map (·.2)) ++ ((if l.isEmpty then [] else lineL st o) ++ [en])
 | [] => rfl
 | x :: r => by
  have ih:=itT_seq st o en r
  unfold itT
  rw [ih,List.map_cons]
  cases r with
  | nil => simp [seqE,leadE]
  | cons y r => simp [seqE,leadE]
theorem itT_seq1 {α : Type} (st o : Nat) (en : UInt8) (l : List (α × List UInt8)) : (if l.isEmpty then [] else lineL st (o + 1)) ++ itT st o en true l = seqE st o true (l.map (·.2)) ++ ((if l.isEmpty then [] else lineL st o) ++ [en]):=by
 cases l with
 | nil => rfl
 | cons x r =>
  have ih:=itT_seq st o en r
  unfold itT
  rw [ih,List.map_cons]
  cases r with
  | nil => simp [seqE,leadE]
  | cons y r => simp [seqE,leadE]
theorem prI_snd {qc : Int → List UInt8} {nt : Bool → List Nat → Int → List UInt8} {st o : Nat} : ∀ l : List VT,(prI qc nt st o l).map (·.2) = (l.map fun y => ((⟨#[]⟩ : ByteArray),y)).map (pcE qc nt st o false)
 | [] => by unfold prI; rfl
 | v :: r => by
  unfold prI
  rw [List.map_cons,List.map_cons,List.map_cons,prI_snd r]
  simp [pcE]
theorem prK_snd {qc : Int → List UInt8} {nt : Bool → List Nat → Int → List UInt8} {st o : Nat} : ∀ (l : List VT) (ks : List ByteArray),ks.length = l.length → (prK qc nt st o l ks).map (·.2) = (ks.zip l).map (pcE qc nt st o true)
 | [],ks,_ => by
  unfold prK
  cases ks <;> rfl
 | v :: r,[],h => by simp at h
 | v :: r,s :: ks,h => by
  unfold prK
  have h2 : ks.length = r.length:=by simpa using h
  rw [List.map_cons,List.zip_cons_cons,List.map_cons,show (s :: ks).tail = ks from rfl,prK_snd r ks h2]
  simp [pcE,keyL,List.append_assoc]
def holdL (qc : Int → List UInt8) (nt : Bool → List Nat → Int → List UInt8) (st o : Nat) (be en : UInt8) (x : VT) : List UInt8 :=
 [be] ++ (seqE st o true ((entL x).map (pcE qc nt st o (decide (x.kind = 6)))) ++ ((if x.list.isEmpty then [] else lineL st o) ++ [en]))
theorem isEmpty_len {α β : Type} {l : List α} {r : List β} (h : l.length = r.length) : l.isEmpty = r.isEmpty:=by
 cases l <;> cases r <;> simp_all
theorem prV_list {qc : Int → List UInt8} {nt : Bool → List Nat → Int → List UInt8} {st o : Nat} {x : VT} (h : x.kind = 5) : prV qc nt st o x = holdL qc nt st o 91 93 x:=by
 cases x with
 | mk k n xs e t l ks =>
  have hk : k = 5:=h
  subst hk
  have hm:=(prI_map (qc:=qc) (nt:=nt) (st:=st) (o:=o) l)
  have hi:=isEmpty_len hm.2
  have hs:=itT_seq1 st o 93 (prI qc nt st o l)
  rw [hi,prI_snd] at hs
  unfold prV holdL
  rw [entL_mk]
  simp only [show ¬ (5 : Int) = 1 by decide,show ¬ (5 : Int) = 2 by decide,show ¬ (5 : Int) = 3 by decide,show ¬ (5 : Int) = 4 by decide,show ¬ (5 : Int) = 6 by decide,if_false,if_true,VT.kind,VT.list,decide_false]
  rw [hs]
  rfl
theorem prV_object {qc : Int → List UInt8} {nt : Bool → List Nat → Int → List UInt8} {st o : Nat} {x : VT} (h : x.kind = 6) (hl : x.keys.length = x.list.length) : prV qc nt st o x = holdL qc nt st o 123 125 x:=by
 cases x with
 | mk k n xs e t l ks =>
  have hk : k = 6:=h
  subst hk
  have hl' : ks.length = l.length:=hl
  have hm:=(prK_map (qc:=qc) (nt:=nt) (st:=st) (o:=o) l ks hl')
  have hi:=isEmpty_len hm.2
  have hs:=itT_seq1 st o 125 (prK qc nt st o l ks)
  rw [hi,prK_snd _ _ hl'] at hs
  unfold prV holdL
  rw [entL_mk]
  simp only [show ¬ (6 : Int) = 1 by decide,show ¬ (6 : Int) = 2 by decide,show ¬ (6 : Int) = 3 by decide,show ¬ (6 : Int) = 4 by decide,show ¬ (6 : Int) = 5 by decide,if_false,if_true,VT.kind,VT.list,decide_true]
  rw [hs]
  rfl
end Go.Proofs.YtkigpbkkhgabeaaGreatDoor
