import Derived.Test.YtcanfiaooabocaaGreatDoorPVchk
import Derived.Test.YtcanfiaooabocaaGreatDoorPDref
import Derived.Test.YtcanfiaooabocaaGreatDoorPDpar
import Derived.Laws.Concat
import Derived.Test.YtcanfiaooabocaaGreatDoorPDbm
import Derived.Test.YtcanfiaooabocaaGreatDoorPNrefb
import Derived.PlainAid
import Derived.Test.YtcanfiaooabocaaGreatDoorPDa
import Derived.Deep.AppendLies
import Derived.Deep.RegionHeld3
import Derived.Test.YtcanfiaooabocaaGreatDoorPRloc
import Derived.Test.YtcanfiaooabocaaGreatDoorPNlimb
import Derived.Test.YtcanfiaooabocaaGreatDoorPDrck
import Derived.Deep.QuietTactic
import Derived.BigQuiet
import Derived.Deep.Cut
import Derived.Deep.CutRange
import Derived.Test.YtcanfiaooabocaaGreatDoorPVsame
import Derived.Laws.EntriesVeiled
import Derived.Test.YtcanfiaooabocaaGreatDoorPArgs
import Derived.Test.YtcanfiaooabocaaGreatDoorPUfind
import Derived.Test.YtcanfiaooabocaaGreatDoorPUrchk
set_option linter.unusedVariables false
set_option linter.unusedSimpArgs false
namespace Go.Proofs.YtcanfiaooabocaaGreatDoor
open Go.RowKit
theorem preL_parts (lv : Nat) : ∀ l : List VT,(preL lv l).map (·.2) = l.flatMap partsV
 | [] => by simp [preL]
 | v :: r => by
  simp only [preL,List.map_append,List.flatMap_cons,preL_parts lv r]
  rw [pre_snd lv 0 v]; rfl
theorem parts_eq (x : VT) : partsV x = x :: x.inner.flatMap partsV:=by
 unfold partsV
 rw [pre_eq]
 simp only [List.map_cons]
 rw [preL_parts]; rfl
def szL (l : List VT) (k : Nat) : Nat:=((l.take k).flatMap partsV).length
theorem szL_zero (l : List VT) : szL l 0 = 0:=by simp [szL]
theorem szL_succ {l : List VT} {k : Nat} {x : VT} (h : l[k]? = some x) : szL l (k + 1) = szL l k + (partsV x).length:=by
 unfold szL
 rw [List.take_add_one,h]
 simp
theorem szL_le (l : List VT) (k : Nat) : szL l k ≤ (l.flatMap partsV).length:=by
 unfold szL
 have h : l.flatMap partsV = (l.take k).flatMap partsV ++ (l.drop k).flatMap partsV:=by rw [← List.flatMap_append,List.take_append_drop]
 rw [h,List.length_append]; omega
theorem szL_all (l : List VT) : szL l l.length = (l.flatMap partsV).length:=by unfold szL; rw [List.take_length]
def Gd (x : VT) : Prop:=∀ y ∈ partsV x,alone y = 0
theorem Gd.own {x : VT} (h : Gd x) : alone x = 0:=h x (by rw [parts_eq]; exact List.mem_cons_self)
theorem Gd.sub {x z : VT} (h : Gd x) (hz : z ∈ x.inner) : Gd z:=fun y hy => h y (by rw [parts_eq]; exact List.mem_cons_of_mem _ (List.mem_flatMap.2 ⟨z,hz,hy⟩))
theorem fitV_mk2 (k : Int) (n : Bool) (x : List Nat) (e : Int) (t : ByteArray) (l : List VT) (ks : List ByteArray) : fitV (.mk k n x e t l ks) =
  if k = 3 then okB n x e && decide (t.size + l.length + ks.length = 0)
  else if k = 4 then decide (x.length + l.length + ks.length = 0) && !n && decide (e = 0)
  else if k = 5 then decide (x.length + t.size + ks.length = 0) && !n && decide (e = 0)
  else if k = 6 then decide (ks.length = l.length) && rises ks && decide (x.length + t.size = 0) && !n && decide (e = 0)
  else decide (x.length + t.size + l.length + ks.length = 0) && !n && decide (e = 0):=rfl
theorem ownT_mk (k : Int) (n : Bool) (x : List Nat) (e : Int) (t : ByteArray) (l : List VT) (ks : List ByteArray) : ownT (.mk k n x e t l ks) = if k = 4 then [t] else if k = 6 then ks else []:=rfl
theorem alone_zero {x : VT} (h : alone x = 0) : (0 ≤ x.kind ∧ x.kind ≤ 6) ∧ (∀ s ∈ ownT x,isT s.data.toList = true ∧ s.size ≤ 16384) ∧ (ownT x).length ≤ 4096 ∧ x.inner.length ≤ 4096 ∧ fitV x = true:=by
 unfold alone at h
 split at h
 ·exact absurd h (by decide)
 rename_i h1
 split at h
 ·exact absurd h (by decide)
 rename_i h2
 split at h
 ·exact absurd h (by decide)
 rename_i h3
 split at h
 ·exact absurd h (by decide)
 rename_i h4
 split at h
 ·rename_i h5
  refine ⟨by omega,fun s hs => ⟨?_,?_⟩,by omega,by omega,h5⟩
  ·rcases hh : isT s.data.toList with _ | _
   ·exact absurd (List.any_eq_true.2 ⟨s,hs,by simp [hh]⟩) h2
   ·rfl
  ·rcases Nat.lt_or_ge 16384 s.size with h6 | h6
   ·exact absurd (List.any_eq_true.2 ⟨s,hs,by simpa using h6⟩) h3
   ·exact h6
 ·exact absurd h (by decide)
theorem alone_fields {x : VT} (h : alone x = 0) : x.list = x.inner ∧
  (x.kind ≠ 3 → x.num = [] ∧ x.neg = false ∧ x.exp = 0) ∧ (x.kind = 3 → okB x.neg x.num x.exp = true) ∧ (x.kind ≠ 4 → x.text.size = 0) ∧ (x.kind = 4 → isT x.text.data.toList = true ∧ x.text.size ≤ 16384) ∧
  (x.kind ≠ 6 → x.keys = []) ∧ (x.kind = 6 → x.keys.length = x.list.length ∧ rises x.keys = true) ∧ (∀ s ∈ x.keys,isT s.data.toList = true ∧ s.size ≤ 16384) ∧ x.list.length ≤ 4096 ∧ x.keys.length ≤ 4096 ∧ (x.kind < 5 → x.list = []):=by
 obtain ⟨⟨h1,h2⟩,h3,h4,h5,h6⟩:=alone_zero h
 cases x with
 | mk k n xs e t l ks =>
  simp only [VT.kind,VT.list,VT.num,VT.neg,VT.exp,VT.text,VT.keys] at *
  rw [inner_mk] at h5 ⊢
  rw [fitV_mk2] at h6
  rw [ownT_mk] at h3 h4
  by_cases e3 : k = 3
  ·subst e3
   rw [if_pos rfl] at h6
   simp only [Bool.and_eq_true,decide_eq_true_eq] at h6
   obtain ⟨h6,h7⟩:=h6
   have hl : l = []:=List.eq_nil_of_length_eq_zero (by omega)
   have hk : ks = []:=List.eq_nil_of_length_eq_zero (by omega)
   subst hl hk
   refine ⟨by simp [hold],fun h => absurd rfl h,fun _ => h6,fun _ => by omega,fun h => absurd h (by decide),fun _ => rfl,fun h => absurd h (by decide),fun s hs => absurd hs (by simp),by simp,by simp,fun _ => rfl⟩
  rw [if_neg e3] at h6
  by_cases e4 : k = 4
  ·subst e4
   rw [if_pos rfl] at h6
   simp only [Bool.and_eq_true,decide_eq_true_eq,Bool.not_eq_true'] at h6
   obtain ⟨⟨h6,h7⟩,h8⟩:=h6
   have hl : l = []:=List.eq_nil_of_length_eq_zero (by omega)
   have hk : ks = []:=List.eq_nil_of_length_eq_zero (by omega)
   have hx : xs = []:=List.eq_nil_of_length_eq_zero (by omega)
   subst hl hk hx
   refine ⟨by simp [hold],fun _ => ⟨rfl,h7,h8⟩,fun h => absurd h (by decide),fun h => absurd rfl h,fun _ => h3 t (by simp),fun _ => rfl,fun h => absurd h (by decide),fun s hs => absurd hs (by simp),by simp,by simp,fun _ => rfl⟩
  rw [if_neg e4] at h6
  by_cases e5 : k = 5
  ·subst e5
   rw [if_pos rfl] at h6
   simp only [Bool.and_eq_true,decide_eq_true_eq,Bool.not_eq_true'] at h6
   obtain ⟨⟨h6,h7⟩,h8⟩:=h6
   have hk : ks = []:=List.eq_nil_of_length_eq_zero (by omega)
   have hx : xs = []:=List.eq_nil_of_length_eq_zero (by omega)
   subst hk hx
   have hh : hold 5 = true:=by decide
   rw [if_pos hh] at h5 ⊢
   refine ⟨rfl,fun _ => ⟨rfl,h7,h8⟩,fun h => absurd h (by decide),fun _ => by omega,fun h => absurd h (by decide),fun _ => rfl,fun h => absurd h (by decide),fun s hs => absurd hs (by simp),h5,by simp,fun h => absurd h (by decide)⟩
  rw [if_neg e5] at h6
  by_cases e6 : k = 6
  ·subst e6
   rw [if_pos rfl] at h6
   simp only [Bool.and_eq_true,decide_eq_true_eq,Bool.not_eq_true'] at h6
   obtain ⟨⟨⟨⟨h6,h9⟩,h10⟩,h7⟩,h8⟩:=h6
   have hx : xs = []:=List.eq_nil_of_length_eq_zero (by omega)
   subst hx
   have hh : hold 6 = true:=by decide
   rw [if_pos hh] at h5 ⊢
   rw [if_neg (by decide),if_pos rfl] at h3 h4
   refine ⟨rfl,fun _ => ⟨rfl,h7,h8⟩,fun h => absurd h (by decide),fun _ => by omega,fun h => absurd h (by decide),fun h => absurd rfl h,fun _ => ⟨h6,h9⟩,h3,h5,h4,fun h => absurd h (by decide)⟩
  rw [if_neg e6] at h6
  simp only [Bool.and_eq_true,decide_eq_true_eq,Bool.not_eq_true'] at h6
  obtain ⟨⟨h6,h7⟩,h8⟩:=h6
  have hl : l = []:=List.eq_nil_of_length_eq_zero (by omega)
  have hk : ks = []:=List.eq_nil_of_length_eq_zero (by omega)
  have hx : xs = []:=List.eq_nil_of_length_eq_zero (by omega)
  subst hl hk hx
  refine ⟨by simp,fun _ => ⟨rfl,h7,h8⟩,fun h => absurd h e3,fun _ => by omega,fun h => absurd h e4,fun _ => rfl,fun h => absurd h e6,fun s hs => absurd hs (by simp),by simp,by simp,fun _ => rfl⟩
def mxL : List Nat → Nat
 | [] => 0
 | a :: r => max a (mxL r)
theorem mxL_snoc (l : List Nat) (a : Nat) : mxL (l ++ [a]) = max (mxL l) a:=by
 induction l with
 | nil => simp [mxL]
 | cons b r ih => simp only [List.cons_append,mxL,ih]; omega
theorem mxL_le {l : List Nat} {B : Nat} (h : ∀ a ∈ l,a ≤ B) : mxL l ≤ B:=by
 induction l with
 | nil => simp [mxL]
 | cons b r ih =>
  have h1:=h b List.mem_cons_self
  have h2:=ih fun a ha => h a (List.mem_cons_of_mem _ ha)
  simp only [mxL]; omega
def dpt : Nat → VT → Nat
 | 0,_ => 0
 | n + 1,x => if hold x.kind then 1 + mxL (x.list.map (dpt n)) else 0
theorem dpt_le : ∀ (n : Nat) (x : VT),dpt n x ≤ n
 | 0,_ => Nat.le_refl _
 | n + 1,x => by
  unfold dpt
  split
  ·have:=mxL_le (l:=x.list.map (dpt n)) (B:=n) (fun a ha => by
    obtain ⟨z,-,rfl⟩:=List.mem_map.1 ha
    exact dpt_le n z)
   omega
  ·omega
def dpL (n : Nat) (l : List VT) (k : Nat) : Nat:=mxL ((l.take k).map (dpt n))
theorem dpL_zero (n : Nat) (l : List VT) : dpL n l 0 = 0:=by simp [dpL,mxL]
theorem dpL_succ {n : Nat} {l : List VT} {k : Nat} {x : VT} (h : l[k]? = some x) : dpL n l (k + 1) = max (dpL n l k) (dpt n x):=by
 unfold dpL
 rw [List.take_add_one,h]
 simp only [Option.toList_some,List.map_append,List.map_cons,List.map_nil]
 rw [mxL_snoc]
theorem dpL_le (n : Nat) (l : List VT) (k : Nat) : dpL n l k ≤ n:=mxL_le fun a ha => by
 obtain ⟨z,-,rfl⟩:=List.mem_map.1 ha
 exact dpt_le n z
theorem deepL_mem {lv : Nat} {z : VT} : ∀ {l : List VT},z ∈ l → deepL (pre lv z) ≤ deepL (preL lv l)
 | v :: r,h => by
  simp only [preL]
  rw [deepL_append]
  rcases List.mem_cons.1 h with rfl | h
  ·omega
  ·have:=deepL_mem (lv:=lv) h; omega
theorem dpt_deep : ∀ (n lv : Nat) (x : VT),dpt n x = 0 ∨ lv + dpt n x ≤ deepL (pre lv x)
 | 0,_,_ => .inl rfl
 | n + 1,lv,x => by
  unfold dpt
  by_cases h : hold x.kind = true
  ·right
   rw [if_pos h,pre_eq]
   have hin : x.inner = x.list:=by unfold VT.inner; rw [if_pos h]
   rw [hin]
   simp only [deepL]
   rw [if_pos h]
   have hm : mxL (x.list.map (dpt n)) ≤ max (lv + 1) (deepL (preL (lv + 1) x.list)) - (lv + 1):=mxL_le fun a ha => by
    obtain ⟨z,hz,rfl⟩:=List.mem_map.1 ha
    rcases dpt_deep n (lv + 1) z with h1 | h1
    ·omega
    ·have:=deepL_mem (lv:=lv + 1) hz
     omega
   omega
  ·left; rw [if_neg h]
theorem okV_gd {x : VT} (h : okV x) : Gd x ∧ (partsV x).length ≤ 16384 ∧ dpt 1000 x ≤ 64:=by
 obtain ⟨h1,h2,h3⟩:=okV_parts h
 refine ⟨h1,h2,?_⟩
 rcases dpt_deep 1000 0 x with h4 | h4 <;> omega
end Go.Proofs.YtcanfiaooabocaaGreatDoor
namespace Go.Proofs.YtcanfiaooabocaaGreatDoor
open Go.RowKit Go.Lib
theorem VIn.seven {w : World} {S : Nat → Prop} {x : VT} {cs : List Value} (h : VIn w S x cs) : ∃ k neg A n c e t LA ln lc KA kn kc,cs = [.int .i64 k,.bool neg,.slice A n c,.int .i64 e,.string t,.slice LA ln lc,.slice KA kn kc] ∧ x.kind = k ∧ RdL w S LA ln x.list:=by
 cases x with
 | mk k neg xs e t l ks =>
  obtain ⟨A,n,c,LA,ln,lc,KA,kn,kc,rfl,_,_,_,hl,_⟩:=h.parts
  exact ⟨k,neg,A,n,c,e,t,LA,ln,lc,KA,kn,kc,rfl,rfl,hl⟩
theorem rtext_c (s : ByteArray) (w : World) (h1 : isT s.data.toList = true) (h2 : s.size ≤ 16384) : Calls Tryz.prog 77 #[.string s] w fun e w' => e = .returned (.int .i64 0) ∧ Below w.heap.size w w':=by
 have hc:=URCheck_c s.data.toList w (by show s.data.toList.length ≤ _; rw [Array.length_toList]; exact Nat.le_trans h2 (by decide))
 have he : errT s.data.toList = 0:=by unfold errT; rw [if_pos h1]
 rw [he,show mk8 s.data.toList = s from by cases s; simp [mk8]] at hc
 generalize badAt s.data.toList = B at hc
 have hs : ¬ (16384 : Int) < (s.size : Int):=by omega
 clear h1 he
 go_enter Tryz.func77,Tryz.ntmps77
 go_wp2_with fail
 refine hc.mono ?_
 rintro e w1 ⟨rfl,hb⟩
 go_wp2
 go_ret
 exact ⟨rfl,hb⟩
set_option maxRecDepth 100000 in
set_option maxHeartbeats 4000000 in
theorem rdeep_c : ∀ (m : Nat) (x : VT) (S : Nat → Prop) (cs : List Value) (w : World),m ≤ 1000 → VIn w S x cs → (∀ b,S b → b < w.heap.size) →
  Calls Tryz.prog 50 #[.agg cs.toArray,.int .i64 (m : Int)] w fun e w' => e = .returned (.int .i64 (dpt m x : Int)) ∧ Below w.heap.size w w':=by
 intro m
 induction m with
 | zero =>
  intro x S cs w hm hx hS
  obtain ⟨k,neg,A,n,c,e,t,LA,ln,lc,KA,kn,kc,rfl,-,-⟩:=hx.seven
  have hbx:=World.alloc_heap_new w (.cells #[.int .i64 k,.bool neg,.slice A n c,.int .i64 e,.string t,.slice LA ln lc,.slice KA kn kc] 28)
  obtain ⟨t0,t1,t2,t3,t4,t5,t6⟩:=box7_of hbx
  have hb:=(Below.refl w.heap.size w).alloc (Nat.le_refl _) (.cells #[.int .i64 k,.bool neg,.slice A n c,.int .i64 e,.string t,.slice LA ln lc,.slice KA kn kc] 28)
  have HB:=Lib.hid hb
  clear hbx hx hb t1 t2 t3 t4 t5 t6
  by_cases h5 : k = 5
  ·subst h5
   go_enter Tryz.func50,Tryz.ntmps50
   go_wp2
   go_ret
   exact ⟨rfl,HB.out⟩
  ·by_cases h6 : k = 6
   ·subst h6
    go_enter Tryz.func50,Tryz.ntmps50
    go_wp2
    go_ret
    exact ⟨rfl,HB.out⟩
   ·go_enter Tryz.func50,Tryz.ntmps50
    go_wp2
    go_ret
    exact ⟨rfl,HB.out⟩
 | succ m ih =>
  intro x S cs w hm hx hS
  obtain ⟨k,neg,A,n,c,e,t,LA,ln,lc,KA,kn,kc,rfl,hk,hl⟩:=hx.seven
  have hbx:=World.alloc_heap_new w (.cells #[.int .i64 k,.bool neg,.slice A n c,.int .i64 e,.string t,.slice LA ln lc,.slice KA kn kc] 28)
  have hb:=(Below.refl w.heap.size w).alloc (Nat.le_refl _) (.cells #[.int .i64 k,.bool neg,.slice A n c,.int .i64 e,.string t,.slice LA ln lc,.slice KA kn kc] 28)
  have hsz : (w.alloc (.cells #[.int .i64 k,.bool neg,.slice A n c,.int .i64 e,.string t,.slice LA ln lc,.slice KA kn kc] 28)).heap.size = w.heap.size + 1:=by simp
  by_cases hh : hold k = true
  ·have hd : dpt (m + 1) x = 1 + dpL m x.list ln:=by
    unfold dpt dpL
    rw [hk,if_pos hh,← hl.1,List.take_length]
   rw [hd]
   have hlb:=hl.2.1
   obtain ⟨RR,hRR⟩ : ∃ RR,dpL m x.list ln = RR:=⟨_,rfl⟩
   rw [hRR]
   have HRR:=Lib.hid hRR
   clear hRR
   generalize x.list = l at *
   have hk6 : k = 5 ∨ k = 6:=by unfold hold at hh; simpa using hh
   have HB:=Lib.hid hb
   have HL:=Lib.hid hl
   have HBX:=Lib.hid hbx
   have HSZ:=Lib.hid hsz
   clear hb hl hbx hx hh hd hk hsz
   rcases hk6 with rfl | rfl
   all_goals (
    obtain ⟨t0,t1,t2,t3,t4,t5,t6⟩:=box7_of HBX.out
    have hmz : ((m + 1 : Nat) : Int) = (m : Int) + 1:=by omega
    have hm0 : ¬ (m : Int) + 1 = 0:=by omega
    rw [hmz]
    go_enter Tryz.func50,Tryz.ntmps50
    go_wp2_with fail
    generalize (w.alloc (.cells #[.int .i64 _,.bool neg,.slice A n c,.int .i64 e,.string t,.slice LA ln lc,.slice KA kn kc] 28)) = W1 at *
    go_loopw [5,6] (fun nv iv wr => ∃ j : Nat,j ≤ ln ∧ nv = .int .i64 (dpL m l j : Int) ∧ iv = .int .i64 (j : Int) ∧ Hid (Below W1.heap.size W1 wr)) (fun _ iv _ => ln - (RowKit.intOf iv).toNat)
    case atStart => exact ⟨0,Nat.zero_le _,by rw [dpL_zero]; rfl,rfl,Below.refl _ _⟩
    case round =>
     obtain ⟨j,hj,rfl,rfl,hbel⟩:=hrel
     have hbw : Below w.heap.size w wr:=HB.out.trans (hbel.out.mono (by have:=HSZ.out; omega))
     have hwr:=(hbel.out.block w.heap.size (by have:=HSZ.out; omega)).trans HBX.out
     obtain ⟨y0,y1,y2,y3,y4,y5,y6⟩:=box7_of hwr
     have hD:=dpL_le m l j
     by_cases hjn : j < ln
     ·have hjlt : (j : Int) < (ln : Int):=by omega
      have hj0 : (0 : Int) ≤ (j : Int):=by omega
      have hjt : ((j : Int)).toNat = j:=by omega
      have hjw : IntKind.i64.wrap ((j : Int) + 1) = (j : Int) + 1:=IntWalk.i64_in _ (by omega)
      have hmw : IntKind.i64.wrap (m : Int) = (m : Int):=IntWalk.i64_in _ (by omega)
      obtain ⟨b,off,x2,cs2,rfl,hSb,hx2,h7,hcells,hvx⟩:=HL.out.at_ hjn
      obtain ⟨k2,neg2,A2,n2,c2,e2,t2,LA2,ln2,lc2,KA2,kn2,kc2,rfl,-,-⟩:=hvx.seven
      have hcw : ∀ a,a < 7 → wr.cell? ⟨b,off + (j * 7 + a),none⟩ = _:=fun a ha => (hbw.cell (p:=⟨b,off + (j * 7 + a),none⟩) (hS b hSb)).trans (hcells a ha)
      have d0 : wr.cell? ⟨b,off + j * 7,none⟩ = some (.int .i64 k2):=hcw 0 (by omega)
      have d1 : wr.cell? ⟨b,off + j * 7 + 1,none⟩ = some (.bool neg2):=hcw 1 (by omega)
      have d2 : wr.cell? ⟨b,off + j * 7 + 2,none⟩ = some (.slice A2 n2 c2):=hcw 2 (by omega)
      have d3 : wr.cell? ⟨b,off + j * 7 + 3,none⟩ = some (.int .i64 e2):=hcw 3 (by omega)
      have d4 : wr.cell? ⟨b,off + j * 7 + 4,none⟩ = some (.string t2):=hcw 4 (by omega)
      have d5 : wr.cell? ⟨b,off + j * 7 + 5,none⟩ = some (.slice LA2 ln2 lc2):=hcw 5 (by omega)
      have d6 : wr.cell? ⟨b,off + j * 7 + 6,none⟩ = some (.slice KA2 kn2 kc2):=hcw 6 (by omega)
      have hstep:=dpL_succ (n:=m) hx2
      have HC:=ih x2 S _ wr (by omega) (hvx.stay hbw hS) (fun b hb => Nat.lt_of_lt_of_le (hS b hb) hbw.size)
      obtain ⟨D,hDe⟩ : ∃ D,dpL m l j = D:=⟨_,rfl⟩
      obtain ⟨E,hEe⟩ : ∃ E,dpt m x2 = E:=⟨_,rfl⟩
      rw [hDe,hEe] at hstep
      rw [hEe] at HC
      rw [hDe]
      obtain ⟨M,hM⟩ : ∃ M,max D E = M:=⟨_,rfl⟩
      have hMi : max (D : Int) (E : Int) = (M : Int):=by omega
      rw [hM] at hstep
      have HST:=Lib.hid hstep
      have HBEL:=Lib.hid hbel.out
      have HCC:=Lib.hid HC
      clear hcw hcells hx2 h7 hvx hstep hDe hEe hM hbel hwr hD HC hbw
      go_wp2_with fail
      refine HCC.out.mono ?_
      rintro e' w5 ⟨rfl,hb5⟩
      clear d0 d1 d2 d3 d4 d5 d6 y0 y1 y2 y3 y4 y5 y6
      go_wp2_with fail
      go_roundw
      case rel =>
       refine ⟨_,_,_,_,_,_,_,_,_,_,_,_,_,_,_,_,_,_,_,⟨j + 1,hjn,by rw [HST.out],by go_num,HBEL.out.trans (hb5.mono HBEL.out.size)⟩,rfl⟩
      case measure => simp [RowKit.intOf]; omega
     ·have hjn2 : ¬ (j : Int) < (ln : Int):=by omega
      obtain rfl : j = ln:=by omega
      rw [HRR.out] at hD ⊢
      have hDw : IntKind.i64.wrap (1 + (RR : Int)) = 1 + (RR : Int):=IntWalk.i64_in _ (by omega)
      have HBW:=Lib.hid hbw
      clear hbel hwr hbw
      go_wp2_with fail
      go_ret
      exact ⟨by first | rfl | (congr 2; omega),HBW.out⟩)
  ·have hd : dpt (m + 1) x = 0:=by unfold dpt; rw [hk,if_neg hh]
   rw [hd]
   have h5 : ¬ k = 5:=by rintro rfl; exact hh rfl
   have h6 : ¬ k = 6:=by rintro rfl; exact hh rfl
   obtain ⟨t0,t1,t2,t3,t4,t5,t6⟩:=box7_of hbx
   have HB:=Lib.hid hb
   clear hbx hx hb hsz hl hk hd t1 t2 t3 t4 t5 t6
   go_enter Tryz.func50,Tryz.ntmps50
   go_wp2
   go_ret
   exact ⟨rfl,HB.out⟩
set_option maxRecDepth 100000 in
theorem rDeep_c (x : VT) (S : Nat → Prop) (cs : List Value) (w : World) (hx : VIn w S x cs) (hS : ∀ b,S b → b < w.heap.size) :
  Calls Tryz.prog 29 #[.agg cs.toArray] w fun e w' => e = .returned (.int .i64 (dpt 1000 x : Int)) ∧ Below w.heap.size w w':=by
 have HD:=Lib.hid (fun W (hW : Below w.heap.size w W) => rdeep_c 1000 x S cs W (Nat.le_refl _) (hx.stay hW hS) (fun b hb => Nat.lt_of_lt_of_le (hS b hb) hW.size))
 obtain ⟨k,neg,A,n,c,e,t,LA,ln,lc,KA,kn,kc,rfl,hk,hl⟩:=hx.seven
 have hbx:=World.alloc_heap_new w (.cells #[.int .i64 k,.bool neg,.slice A n c,.int .i64 e,.string t,.slice LA ln lc,.slice KA kn kc] 28)
 have HB:=Lib.hid ((Below.refl w.heap.size w).alloc (Nat.le_refl _) (.cells #[.int .i64 k,.bool neg,.slice A n c,.int .i64 e,.string t,.slice LA ln lc,.slice KA kn kc] 28))
 obtain ⟨t0,t1,t2,t3,t4,t5,t6⟩:=box7_of hbx
 obtain ⟨D,hD⟩ : ∃ D,dpt 1000 x = D:=⟨_,rfl⟩
 rw [hD] at HD ⊢
 clear hk hl hx hbx hD
 go_enter Tryz.func29,Tryz.ntmps29
 go_wp2_with fail
 refine (HD.out _ HB.out).mono ?_
 rintro e' W2 ⟨rfl,hb2⟩
 have HB2:=Lib.hid (HB.out.trans (hb2.mono HB.out.size))
 clear hb2 t0 t1 t2 t3 t4 t5 t6
 go_wp2_with fail
 go_ret
 exact ⟨rfl,HB2.out⟩
end Go.Proofs.YtcanfiaooabocaaGreatDoor
namespace Go.Proofs.YtcanfiaooabocaaGreatDoor
open Go.RowKit Go.Lib
set_option maxRecDepth 100000 in
set_option maxHeartbeats 4000000 in
theorem rsize_c : ∀ (N : Nat) (x : VT) (S : Nat → Prop) (cs : List Value) (w : World),(partsV x).length ≤ N → Gd x → (partsV x).length ≤ 16384 → VIn w S x cs → (∀ b,S b → b < w.heap.size) →
  Calls Tryz.prog 30 #[.agg cs.toArray] w fun e w' => e = .returned (.int .i64 ((partsV x).length : Int)) ∧ Below w.heap.size w w':=by
 intro N
 induction N with
 | zero =>
  intro x S cs w hN
  rw [parts_eq] at hN
  exact absurd hN (by simp)
 | succ N ih =>
  intro x S cs w hN hG hP hx hS
  obtain ⟨k,neg,A,n,c,e,t,LA,ln,lc,KA,kn,kc,rfl,hk,hl⟩:=hx.seven
  have hbx:=World.alloc_heap_new w (.cells #[.int .i64 k,.bool neg,.slice A n c,.int .i64 e,.string t,.slice LA ln lc,.slice KA kn kc] 28)
  have hb:=(Below.refl w.heap.size w).alloc (Nat.le_refl _) (.cells #[.int .i64 k,.bool neg,.slice A n c,.int .i64 e,.string t,.slice LA ln lc,.slice KA kn kc] 28)
  have hsz : (w.alloc (.cells #[.int .i64 k,.bool neg,.slice A n c,.int .i64 e,.string t,.slice LA ln lc,.slice KA kn kc] 28)).heap.size = w.heap.size + 1:=by simp
  have hin:=(alone_fields hG.own).1
  have hpl : (partsV x).length = 1 + szL x.list ln:=by
   rw [parts_eq,← hin,← hl.1,szL_all,List.length_cons]; omega
  have hsub : ∀ (i : Nat) (z : VT),x.list[i]? = some z → Gd z ∧ szL x.list i + (partsV z).length ≤ szL x.list ln:=fun i z hz => by
   refine ⟨hG.sub (by rw [← hin]; exact List.mem_of_getElem? hz),?_⟩
   have h1:=szL_succ hz
   have h2:=szL_le x.list (i + 1)
   rw [← szL_all,hl.1] at h2
   omega
  have hlb:=hl.2.1
  obtain ⟨RR,hRR⟩ : ∃ RR,(partsV x).length = RR:=⟨_,rfl⟩
  rw [hRR] at hpl hN hP ⊢
  have HPL:=Lib.hid hpl
  clear hRR hpl
  generalize x.list = l at *
  have HB:=Lib.hid hb
  have HL:=Lib.hid hl
  have HBX:=Lib.hid hbx
  have HSZ:=Lib.hid hsz
  have HSUB:=Lib.hid hsub
  have HVX:=Lib.hid hx
  have HGD:=Lib.hid hG
  obtain ⟨t0,t1,t2,t3,t4,t5,t6⟩:=box7_of hbx
  clear hb hl hbx hx hsz hsub hin hG
  go_enter Tryz.func30,Tryz.ntmps30
  go_wp2_with fail
  generalize (w.alloc (.cells #[.int .i64 k,.bool neg,.slice A n c,.int .i64 e,.string t,.slice LA ln lc,.slice KA kn kc] 28)) = W1 at *
  go_loopw [3,4] (fun nv iv wr => ∃ j D : Nat,j ≤ ln ∧ Hid (D = 1 + szL l j) ∧ nv = .int .i64 (D : Int) ∧ iv = .int .i64 (j : Int) ∧ Hid (Below W1.heap.size W1 wr)) (fun _ iv _ => ln - (RowKit.intOf iv).toNat)
  case atStart => exact ⟨0,1,Nat.zero_le _,by (show _ = _); rw [szL_zero],rfl,rfl,Below.refl _ _⟩
  case round =>
   obtain ⟨j,D,hj,hD,rfl,rfl,hbel⟩:=hrel
   have hbw : Below w.heap.size w wr:=HB.out.trans (hbel.out.mono (by have:=HSZ.out; omega))
   have hwr:=(hbel.out.block w.heap.size (by have:=HSZ.out; omega)).trans HBX.out
   obtain ⟨y0,y1,y2,y3,y4,y5,y6⟩:=box7_of hwr
   by_cases hjn : j < ln
   ·have hjlt : (j : Int) < (ln : Int):=by omega
    have hj0 : (0 : Int) ≤ (j : Int):=by omega
    have hjt : ((j : Int)).toNat = j:=by omega
    have hjw : IntKind.i64.wrap ((j : Int) + 1) = (j : Int) + 1:=IntWalk.i64_in _ (by omega)
    obtain ⟨b,off,x2,cs2,rfl,hSb,hx2,h7,hcells,hvx⟩:=HL.out.at_ hjn
    obtain ⟨k2,neg2,A2,n2,c2,e2,t2,LA2,ln2,lc2,KA2,kn2,kc2,rfl,-,-⟩:=hvx.seven
    have hcw : ∀ a,a < 7 → wr.cell? ⟨b,off + (j * 7 + a),none⟩ = _:=fun a ha => (hbw.cell (p:=⟨b,off + (j * 7 + a),none⟩) (hS b hSb)).trans (hcells a ha)
    have d0 : wr.cell? ⟨b,off + j * 7,none⟩ = some (.int .i64 k2):=hcw 0 (by omega)
    have d1 : wr.cell? ⟨b,off + j * 7 + 1,none⟩ = some (.bool neg2):=hcw 1 (by omega)
    have d2 : wr.cell? ⟨b,off + j * 7 + 2,none⟩ = some (.slice A2 n2 c2):=hcw 2 (by omega)
    have d3 : wr.cell? ⟨b,off + j * 7 + 3,none⟩ = some (.int .i64 e2):=hcw 3 (by omega)
    have d4 : wr.cell? ⟨b,off + j * 7 + 4,none⟩ = some (.string t2):=hcw 4 (by omega)
    have d5 : wr.cell? ⟨b,off + j * 7 + 5,none⟩ = some (.slice LA2 ln2 lc2):=hcw 5 (by omega)
    have d6 : wr.cell? ⟨b,off + j * 7 + 6,none⟩ = some (.slice KA2 kn2 kc2):=hcw 6 (by omega)
    obtain ⟨g1,g2⟩:=HSUB.out j x2 hx2
    have hst:=szL_succ hx2
    have HC:=ih x2 S _ wr (by have:=HPL.out; omega) g1 (by have:=HPL.out; omega) (hvx.stay hbw hS) (fun b hb => Nat.lt_of_lt_of_le (hS b hb) hbw.size)
    obtain ⟨E,hE⟩ : ∃ E,(partsV x2).length = E:=⟨_,rfl⟩
    rw [hE] at HC hst g2
    have hDb : D + E ≤ 16384:=by have:=HPL.out; have:=hD.out; omega
    obtain ⟨M,hM⟩ : ∃ M,D + E = M:=⟨_,rfl⟩
    have hMi : (D : Int) + (E : Int) = (M : Int):=by omega
    have hMw : IntKind.i64.wrap (M : Int) = (M : Int):=IntWalk.i64_in _ (by omega)
    have hDl : (D : Int) < 1048576:=by omega
    have HST:=Lib.hid (show M = 1 + szL l (j + 1) from by have:=hD.out; omega)
    have HBEL:=Lib.hid hbel.out
    have HCC:=Lib.hid HC
    clear hcw hcells hx2 h7 hvx hst hE hM hbel hwr HC hbw g1 g2 hD
    go_wp2_with fail
    refine HCC.out.mono ?_
    rintro e' w5 ⟨rfl,hb5⟩
    clear d0 d1 d2 d3 d4 d5 d6 y0 y1 y2 y3 y4 y5 y6
    go_wp2_with fail
    go_roundw
    case rel => first | exact ⟨j + 1,M,hjn,HST,rfl,by go_num,HBEL.out.trans (hb5.mono HBEL.out.size)⟩ | trace_state
    case measure => simp [RowKit.intOf]; omega
   ·have hjn2 : ¬ (j : Int) < (ln : Int):=by omega
    obtain rfl : j = ln:=by omega
    obtain rfl : D = RR:=by have:=HPL.out; have:=hD.out; omega
    have hmin : min (D : Int) 1048576 = (D : Int):=by omega
    have HBW:=Lib.hid hbw
    clear hbel hwr hbw hD
    go_wp2_with fail
    go_ret
    exact ⟨rfl,HBW.out⟩
set_option maxRecDepth 100000 in
set_option maxHeartbeats 4000000 in
theorem rall_c (hown : ∀ (x : VT) (S : Nat → Prop) (cs : List Value) (w : World),alone x = 0 → VIn w S x cs → (∀ b,S b → b < w.heap.size) → Calls Tryz.prog 51 #[.agg cs.toArray] w fun e w' => e = .returned (.int .i64 0) ∧ Below w.heap.size w w') :
  ∀ (N : Nat) (x : VT) (S : Nat → Prop) (cs : List Value) (w : World),(partsV x).length ≤ N → Gd x → (partsV x).length ≤ 16384 → VIn w S x cs → (∀ b,S b → b < w.heap.size) →
  Calls Tryz.prog 31 #[.agg cs.toArray] w fun e w' => e = .returned (.int .i64 0) ∧ Below w.heap.size w w':=by
 intro N
 induction N with
 | zero =>
  intro x S cs w hN
  rw [parts_eq] at hN
  exact absurd hN (by simp)
 | succ N ih =>
  intro x S cs w hN hG hP hx hS
  obtain ⟨k,neg,A,n,c,e,t,LA,ln,lc,KA,kn,kc,rfl,hk,hl⟩:=hx.seven
  have hbx:=World.alloc_heap_new w (.cells #[.int .i64 k,.bool neg,.slice A n c,.int .i64 e,.string t,.slice LA ln lc,.slice KA kn kc] 28)
  have hb:=(Below.refl w.heap.size w).alloc (Nat.le_refl _) (.cells #[.int .i64 k,.bool neg,.slice A n c,.int .i64 e,.string t,.slice LA ln lc,.slice KA kn kc] 28)
  have hsz : (w.alloc (.cells #[.int .i64 k,.bool neg,.slice A n c,.int .i64 e,.string t,.slice LA ln lc,.slice KA kn kc] 28)).heap.size = w.heap.size + 1:=by simp
  have hin:=(alone_fields hG.own).1
  have hpl : (partsV x).length = 1 + szL x.list ln:=by
   rw [parts_eq,← hin,← hl.1,szL_all,List.length_cons]; omega
  have hsub : ∀ (i : Nat) (z : VT),x.list[i]? = some z → Gd z ∧ szL x.list i + (partsV z).length ≤ szL x.list ln:=fun i z hz => by
   refine ⟨hG.sub (by rw [← hin]; exact List.mem_of_getElem? hz),?_⟩
   have h1:=szL_succ hz
   have h2:=szL_le x.list (i + 1)
   rw [← szL_all,hl.1] at h2
   omega
  have hlb:=hl.2.1
  have HPL:=Lib.hid hpl
  have HOW:=Lib.hid (fun W (hW : Below w.heap.size w W) => hown x S _ W hG.own (hx.stay hW hS) (fun b hb => Nat.lt_of_lt_of_le (hS b hb) hW.size))
  clear hpl
  generalize x.list = l at *
  have HB:=Lib.hid hb
  have HL:=Lib.hid hl
  have HBX:=Lib.hid hbx
  have HSZ:=Lib.hid hsz
  have HSUB:=Lib.hid hsub
  have HVX:=Lib.hid hx
  have HGD:=Lib.hid hG
  obtain ⟨t0,t1,t2,t3,t4,t5,t6⟩:=box7_of hbx
  clear hb hl hbx hx hsz hsub hin hG
  go_enter Tryz.func31,Tryz.ntmps31
  go_wp2_with fail
  generalize (w.alloc (.cells #[.int .i64 k,.bool neg,.slice A n c,.int .i64 e,.string t,.slice LA ln lc,.slice KA kn kc] 28)) = W0 at *
  refine (HOW.out W0 HB.out).mono ?_
  rintro e' W1 ⟨rfl,hb1⟩
  have hbx1:=(hb1.block w.heap.size (by have:=HSZ.out; omega)).trans HBX.out
  have HB1:=Lib.hid (HB.out.trans (hb1.mono (by have:=HSZ.out; omega)))
  have HBX1:=Lib.hid hbx1
  have HS1:=Lib.hid (show w.heap.size < W1.heap.size from by have:=HSZ.out; have:=hb1.size; omega)
  clear hbx1 hb1 t0 t1 t2 t3 t4 t5 t6
  go_wp2_with fail
  go_loopw [3,4] (fun nv iv wr => ∃ j : Nat,j ≤ ln ∧ nv = .int .i64 0 ∧ iv = .int .i64 (j : Int) ∧ Hid (Below W1.heap.size W1 wr)) (fun _ iv _ => ln - (RowKit.intOf iv).toNat)
  case atStart => exact ⟨0,Nat.zero_le _,rfl,rfl,Below.refl _ _⟩
  case round =>
   obtain ⟨j,hj,rfl,rfl,hbel⟩:=hrel
   have hbw : Below w.heap.size w wr:=HB1.out.trans (hbel.out.mono (by have:=HS1.out; omega))
   have hwr:=(hbel.out.block w.heap.size HS1.out).trans HBX1.out
   obtain ⟨y0,y1,y2,y3,y4,y5,y6⟩:=box7_of hwr
   by_cases hjn : j < ln
   ·have hjlt : (j : Int) < (ln : Int):=by omega
    have hj0 : (0 : Int) ≤ (j : Int):=by omega
    have hjt : ((j : Int)).toNat = j:=by omega
    have hjw : IntKind.i64.wrap ((j : Int) + 1) = (j : Int) + 1:=IntWalk.i64_in _ (by omega)
    obtain ⟨b,off,x2,cs2,rfl,hSb,hx2,h7,hcells,hvx⟩:=HL.out.at_ hjn
    obtain ⟨k2,neg2,A2,n2,c2,e2,t2,LA2,ln2,lc2,KA2,kn2,kc2,rfl,-,-⟩:=hvx.seven
    have hcw : ∀ a,a < 7 → wr.cell? ⟨b,off + (j * 7 + a),none⟩ = _:=fun a ha => (hbw.cell (p:=⟨b,off + (j * 7 + a),none⟩) (hS b hSb)).trans (hcells a ha)
    have d0 : wr.cell? ⟨b,off + j * 7,none⟩ = some (.int .i64 k2):=hcw 0 (by omega)
    have d1 : wr.cell? ⟨b,off + j * 7 + 1,none⟩ = some (.bool neg2):=hcw 1 (by omega)
    have d2 : wr.cell? ⟨b,off + j * 7 + 2,none⟩ = some (.slice A2 n2 c2):=hcw 2 (by omega)
    have d3 : wr.cell? ⟨b,off + j * 7 + 3,none⟩ = some (.int .i64 e2):=hcw 3 (by omega)
    have d4 : wr.cell? ⟨b,off + j * 7 + 4,none⟩ = some (.string t2):=hcw 4 (by omega)
    have d5 : wr.cell? ⟨b,off + j * 7 + 5,none⟩ = some (.slice LA2 ln2 lc2):=hcw 5 (by omega)
    have d6 : wr.cell? ⟨b,off + j * 7 + 6,none⟩ = some (.slice KA2 kn2 kc2):=hcw 6 (by omega)
    obtain ⟨g1,g2⟩:=HSUB.out j x2 hx2
    have HC:=ih x2 S _ wr (by have:=HPL.out; omega) g1 (by have:=HPL.out; omega) (hvx.stay hbw hS) (fun b hb => Nat.lt_of_lt_of_le (hS b hb) hbw.size)
    have HBEL:=Lib.hid hbel.out
    have HCC:=Lib.hid HC
    clear hcw hcells hx2 h7 hvx hbel hwr HC hbw g1 g2
    go_wp2_with fail
    refine HCC.out.mono ?_
    rintro e' w5 ⟨rfl,hb5⟩
    clear d0 d1 d2 d3 d4 d5 d6 y0 y1 y2 y3 y4 y5 y6
    go_wp2_with fail
    go_roundw
    case rel => first | exact ⟨j + 1,hjn,rfl,by go_num,HBEL.out.trans (hb5.mono HBEL.out.size)⟩ | trace_state
    case measure => simp [RowKit.intOf]; omega
   ·have hjn2 : ¬ (j : Int) < (ln : Int):=by omega
    have HBW:=Lib.hid hbw
    clear hbel hwr hbw
    go_wp2_with fail
    go_ret
    exact ⟨rfl,HBW.out⟩
end Go.Proofs.YtcanfiaooabocaaGreatDoor
namespace Go.Proofs.YtcanfiaooabocaaGreatDoor
open Go.RowKit
theorem stE_small {v : Nat} (h : v < 10 ^ 40) : stE v 0 = 0:=by
 by_cases h0 : v = 0
 ·rw [h0]; exact (st_zero false 0).1
 ·have hl : (dOf v).length ≤ 40:=by
   rcases Nat.lt_or_ge 40 (dOf v).length with h1 | h1
   ·exfalso
    have h2:=(dOf_can v).ge (dOf_ne (by omega))
    rw [dOf_val] at h2
    have h3 : 10 ^ 40 ≤ dp ((dOf v).length - 1):=Nat.pow_le_pow_right (by omega) (by omega)
    omega
   ·exact h1
  have h3:=lz_le (dOf v)
  unfold stE cf
  rw [if_neg h0,List.length_drop,if_neg (by omega),if_pos (by omega)]
theorem ten19 : (18446744073709551616 : Nat) < 10 ^ 40:=by decide
end Go.Proofs.YtcanfiaooabocaaGreatDoor
