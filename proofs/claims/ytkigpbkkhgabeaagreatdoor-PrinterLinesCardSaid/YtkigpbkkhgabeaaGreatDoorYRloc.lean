import Derived.Test.YtkigpbkkhgabeaaGreatDoorYVchk
import Derived.Laws.AppendOwnNone
import Derived.Maps.AppendAt
import Derived.Deep.RegionWith
import Derived.Deep.Cut
import Derived.Deep.RegionHeld3
import Derived.Deep.QuietTactic
import Derived.BigQuiet
import Derived.Deep.LoopGhost
import Derived.Test.YtkigpbkkhgabeaaGreatDoorYVcm
import Derived.Maps.OwnOps
import Derived.Maps.OwnSet
import Derived.Sort.KeysCollected
import Derived.Test.YtkigpbkkhgabeaaGreatDoorYDpar
import Derived.Test.YtkigpbkkhgabeaaGreatDoorYVprt
import Derived.Test.YtkigpbkkhgabeaaGreatDoorYNlimb
set_option linter.unusedVariables false
set_option linter.unusedSimpArgs false
namespace Go.Proofs.YtkigpbkkhgabeaaGreatDoor
open Go.RowKit
theorem infoS1 : (Tryz.prog.info? 9).map (fun i => (i.zero,i.size,i.bytes)) = some (some (.string ⟨#[]⟩),1,16):=by kernel_rfl
theorem infoV7 : (Tryz.prog.info? 28).map (fun i => (i.zero,i.size,i.bytes)) = some (some (.agg #[.int .i64 0,.bool false,.slice none 0 0,.int .i64 0,.string ⟨#[]⟩,.slice none 0 0,.slice none 0 0]),7,112):=by kernel_rfl
end Go.Proofs.YtkigpbkkhgabeaaGreatDoor
namespace Go.Proofs.YtkigpbkkhgabeaaGreatDoor
open Go.RowKit Go.Lib
def strs (ks : List ByteArray) : List Value:=ks.map .string
theorem RdT.cells {w : World} {S : Nat → Prop} {A : Option Addr} {n : Nat} {ks : List ByteArray} (h : RdT w S A n ks) : 0 < n → ∃ b off,A = some ⟨b,off,none⟩ ∧ ∀ j u,(strs ks)[j]? = some u → w.cell? ⟨b,off + j,none⟩ = some u:=fun h0 => by
 obtain ⟨b,off,e,_,h2⟩:=h.2 h0
 refine ⟨b,off,e,fun j u hj => ?_⟩
 unfold strs at hj
 rw [List.getElem?_map,Option.map_eq_some_iff] at hj
 obtain ⟨s,hs,rfl⟩:=hj
 exact (h2 j s hs).1
theorem below_seven {a w : World} {B b : Nat} (h : Below B a w) (hb : B ≤ b) (v0 v1 v2 v3 v4 v5 v6 : Value) : Below B a (((((((w.setCell ⟨b,0,none⟩ v0).setCell ⟨b,1,none⟩ v1).setCell ⟨b,2,none⟩ v2).setCell ⟨b,3,none⟩ v3).setCell ⟨b,4,none⟩ v4).setCell ⟨b,5,none⟩ v5).setCell ⟨b,6,none⟩ v6) :=
 ((((((h.setCell hb v0).setCell hb v1).setCell hb v2).setCell hb v3).setCell hb v4).setCell hb v5).setCell hb v6
end Go.Proofs.YtkigpbkkhgabeaaGreatDoor
namespace Go.Proofs.YtkigpbkkhgabeaaGreatDoor
open Go.RowKit
mutual
def under : VT → Nat
 | .mk _ _ _ _ _ l _ => underL l
def underL : List VT → Nat
 | [] => 0
 | a :: r => 1 + under a + underL r
end
def Own' (base : Nat) (w : World) : Nat → Prop:=fun b => base ≤ b ∧ b < w.heap.size
structure Row where
 A : Option Addr
 n : Nat
 c : Nat
 l : List VT
def Row.val (r : Row) : Value:=.slice r.A r.n r.c
def Row.at (r : Row) (b : Nat) : Prop:=0 < r.n ∧ r.A = some ⟨b,0,none⟩
def unL : List VT → Nat
 | [] => 0
 | a :: r => under a + unL r
def need (st : List Row) : Nat:=(st.map fun r => unL r.l).sum
theorem VIn.one {w : World} {S : Nat → Prop} {x : VT} {cs : List Value} (h : VIn w S x cs) : cs.length = 7 ∧ ∀ u ∈ cs,u.oneCell' = true:=by
 cases h with
 | mk => exact ⟨rfl,by intro u hu; simp only [List.mem_cons,List.not_mem_nil,or_false] at hu; rcases hu with rfl | rfl | rfl | rfl | rfl | rfl | rfl <;> rfl⟩
theorem RdL.flat {w : World} {S : Nat → Prop} {A : Option Addr} {n : Nat} {l : List VT} (h : RdL w S A n l) :
  ∃ (cv : List Value) (cs : Nat → List Value),cv.length = n * 7 ∧ (∀ i,i < n → (cs i).length = 7 ∧ ∀ j,j < 7 → cv[i * 7 + j]? = (cs i)[j]?) ∧ (0 < n → ∃ b off,A = some ⟨b,off,none⟩ ∧ S b ∧ ∀ j u,cv[j]? = some u → w.cell? ⟨b,off + j,none⟩ = some u) ∧ (∀ u ∈ cv,u.oneCell' = true) ∧ ∀ i x,l[i]? = some x → VIn w S x (cs i):=by
 obtain ⟨h1,_,cs,h3,h4⟩:=h
 have hlen : ∀ i,i < n → (cs i).length = 7:=fun i hi => (h4 i _ (List.getElem?_eq_getElem (by omega))).one.1
 have hcv : ∀ i j,i < n → j < 7 → ((List.range (n * 7)).map fun q => ((cs (q / 7))[q % 7]?).getD undef)[i * 7 + j]? = (cs i)[j]?:=fun i j hi hj => by
  have hl:=hlen i hi
  rw [List.getElem?_map,List.getElem?_range (by omega)]
  have e1 : (i * 7 + j) / 7 = i:=by omega
  have e2 : (i * 7 + j) % 7 = j:=by omega
  simp only [Option.map_some,e1,e2]
  rw [List.getElem?_eq_getElem (by omega)]; rfl
 have hat : ∀ q u,((List.range (n * 7)).map fun q => ((cs (q / 7))[q % 7]?).getD undef)[q]? = some u → q / 7 < n ∧ q % 7 < 7 ∧ (cs (q / 7))[q % 7]? = some u:=fun q u hq => by
  have hlt : q < n * 7:=by have:=(List.getElem?_eq_some_iff.1 hq).1; simpa using this
  have e0 : q / 7 * 7 + q % 7 = q:=by omega
  have h5:=hcv (q / 7) (q % 7) (by omega) (by omega)
  rw [e0,hq] at h5
  exact ⟨by omega,by omega,h5.symm⟩
 refine ⟨_,cs,by simp,fun i hi => ⟨hlen i hi,fun j hj => hcv i j hi hj⟩,fun h0 => ?_,fun u hu => ?_,h4⟩
 ·obtain ⟨b,off,e,hS,h5⟩:=h3 h0
  refine ⟨b,off,e,hS,fun q u hq => ?_⟩
  obtain ⟨a1,a2,a3⟩:=hat q u hq
  have:=(h5 (q / 7) a1).2 (q % 7) a2
  rw [show q / 7 * 7 + q % 7 = q by omega] at this
  rw [this,a3]
 ·obtain ⟨q,hq⟩:=List.mem_iff_getElem?.1 hu
  obtain ⟨a1,a2,a3⟩:=hat q u hq
  exact (h4 (q / 7) _ (List.getElem?_eq_getElem (by omega))).one.2 u (List.mem_of_getElem? a3)
end Go.Proofs.YtkigpbkkhgabeaaGreatDoor
namespace Go.Proofs.YtkigpbkkhgabeaaGreatDoor
open Go.RowKit
theorem cell_seven {w : World} {b : Nat} {p : Addr} (h : p.block ≠ b) (v0 v1 v2 v3 v4 v5 v6 : Value) : (((((((w.setCell ⟨b,0,none⟩ v0).setCell ⟨b,1,none⟩ v1).setCell ⟨b,2,none⟩ v2).setCell ⟨b,3,none⟩ v3).setCell ⟨b,4,none⟩ v4).setCell ⟨b,5,none⟩ v5).setCell ⟨b,6,none⟩ v6).cell? p = w.cell? p :=
 World.cell?_of_block ((Below.heap_setCell _ _ _ _ h).trans ((Below.heap_setCell _ _ _ _ h).trans ((Below.heap_setCell _ _ _ _ h).trans ((Below.heap_setCell _ _ _ _ h).trans ((Below.heap_setCell _ _ _ _ h).trans ((Below.heap_setCell _ _ _ _ h).trans (Below.heap_setCell _ _ _ _ h)))))))
end Go.Proofs.YtkigpbkkhgabeaaGreatDoor
namespace Go.Proofs.YtkigpbkkhgabeaaGreatDoor
open Go.RowKit Go.Maps
def kL (s : ByteArray) : Lit:=.string s.data.toList
theorem kL_inj {s t : ByteArray} (h : kL s = kL t) : s = t:=by
 unfold kL at h
 injection h with h
 exact ByteArray.ext (Array.ext' h)
def lastAt (ks : List ByteArray) (s : ByteArray) : Nat → Option Nat
 | 0 => none
 | k + 1 => if ks.getD k ⟨#[]⟩ = s then some k else lastAt ks s k
def lastD {H : Type} (ks : List ByteArray) : Nat → DataW H
 | 0 => .map []
 | k + 1 => (lastD ks k).put (kL (ks.getD k ⟨#[]⟩)) (.lit (.int .i64 (k : Int)))
theorem kL_key (s : ByteArray) : WideAt.IsKeyLit (kL s):=by unfold kL; trivial
theorem lastD_tidy {H : Type} (ks : List ByteArray) : ∀ k,Tidy (lastD (H:=H) ks k)
 | 0 => tidy_empty
 | k + 1 => (lastD_tidy ks k).put (kL_key _) _
theorem lastD_has {H : Type} (ks : List ByteArray) (s : ByteArray) : ∀ k,Maps.has (lastD (H:=H) ks k) (kL s) = (lastAt ks s k).isSome
 | 0 => rfl
 | k + 1 => by
  unfold lastD lastAt
  by_cases h : ks.getD k ⟨#[]⟩ = s
  ·rw [if_pos h,h]
   exact has_put_same (lastD_tidy ks k).isMap (kL_key _) _
  ·rw [if_neg h,has_put_other (fun e => h (kL_inj e).symm)]
   exact lastD_has ks s k
end Go.Proofs.YtkigpbkkhgabeaaGreatDoor
namespace Go.Proofs.YtkigpbkkhgabeaaGreatDoor
open Go.RowKit Go.Maps
def VT0 : VT:=.mk 0 false [] 0 ⟨#[]⟩ [] []
theorem mem_insert {H : Type} {x p : Lit × DataW H} : ∀ {l : List (Lit × DataW H)},p ∈ DataW.insert x l → p = x ∨ p ∈ l
 | [],h => by simpa [DataW.insert] using h
 | y :: r,h => by
  unfold DataW.insert at h
  split at h
  ·simpa using h
  ·rcases List.mem_cons.1 h with h | h
   ·exact .inr (by simp [h])
   ·rcases mem_insert h with h | h
    ·exact .inl h
    ·exact .inr (by simp [h])
theorem lastD_es {H : Type} (ks : List ByteArray) : ∀ k,∃ es,lastD (H:=H) ks k = .map es ∧ ∀ p ∈ es,∃ x,p.1 = .string x
 | 0 => ⟨[],rfl,fun p hp => by simp at hp⟩
 | k + 1 => by
  obtain ⟨es,he,h⟩:=lastD_es (H:=H) ks k
  unfold lastD
  rw [he]
  refine ⟨_,rfl,fun p hp => ?_⟩
  rcases mem_insert hp with rfl | hp
  ·exact ⟨_,rfl⟩
  ·exact h p (List.mem_filter.1 hp).1
theorem lastD_nodup {H : Type} (ks : List ByteArray) (k : Nat) : (strKeys (lastD (H:=H) ks k)).Nodup:=by
 obtain ⟨es,he,h⟩:=lastD_es (H:=H) ks k
 obtain ⟨es',he',hp⟩:=lastD_tidy (H:=H) ks k
 rw [he] at he'
 injection he' with he'
 subst he'
 rw [he]
 show (es.map fun p => strOf p.1).Nodup
 refine List.pairwise_map.2 (hp.imp_of_mem fun {p q} hp' hq' hne e => hne ?_)
 obtain ⟨a,ha⟩:=h p hp'
 obtain ⟨b,hb⟩:=h q hq'
 rw [ha,hb] at e ⊢
 exact congrArg _ e
theorem lastD_mem {H : Type} (ks : List ByteArray) (k : Nat) (s : ByteArray) : s.data.toList ∈ strKeys (lastD (H:=H) ks k) ↔ (lastAt ks s k).isSome = true:=by
 rw [← lastD_has (H:=H)]
 obtain ⟨es,he,h⟩:=lastD_es (H:=H) ks k
 rw [he,has_eq,List.any_eq_true]
 show s.data.toList ∈ es.map (fun p => strOf p.1) ↔ _
 rw [List.mem_map]
 constructor
 ·rintro ⟨p,hp,e⟩
  obtain ⟨a,ha⟩:=h p hp
  rw [ha] at e
  refine ⟨p,hp,?_⟩
  rw [ha]
  have e' : a = s.data.toList:=e
  rw [e']
  exact WideAt.sameKey_self (kL_key s)
 ·rintro ⟨p,hp,e⟩
  have e':=WideAt.sameKey_eq e
  exact ⟨p,hp,by rw [e']; rfl⟩
def keysL (ks : List ByteArray) : List (List UInt8):=(strKeys (lastD (H:=Unit) ks ks.length)).mergeSort leB
def keysB (ks : List ByteArray) : List ByteArray:=(keysL ks).map fun x => ⟨x.toArray⟩
theorem keysB_mem {ks : List ByteArray} {s : ByteArray} : s ∈ keysB ks ↔ (lastAt ks s ks.length).isSome = true:=by
 rw [← lastD_mem (H:=Unit)]
 unfold keysB keysL
 rw [List.mem_map]
 constructor
 ·rintro ⟨x,hx,rfl⟩
  simpa using List.mem_mergeSort.1 hx
 ·intro h
  exact ⟨s.data.toList,List.mem_mergeSort.2 h,by simp⟩
theorem lastAt_some {ks : List ByteArray} {s : ByteArray} : ∀ {k i : Nat},lastAt ks s k = some i → i < k ∧ ks.getD i ⟨#[]⟩ = s ∧ ∀ j,i < j → j < k → ks.getD j ⟨#[]⟩ ≠ s
 | 0,i,h => by simp [lastAt] at h
 | k + 1,i,h => by
  unfold lastAt at h
  split at h
  ·rename_i e
   injection h with h
   subst h
   exact ⟨by omega,e,fun j h1 h2 => absurd h1 (by omega)⟩
  ·rename_i e
   obtain ⟨h1,h2,h3⟩:=lastAt_some h
   refine ⟨by omega,h2,fun j h4 h5 => ?_⟩
   by_cases hj : j = k
   ·subst hj; exact e
   ·exact h3 j h4 (by omega)
theorem lastAt_none {ks : List ByteArray} {s : ByteArray} : ∀ {k : Nat},lastAt ks s k = none → ∀ j,j < k → ks.getD j ⟨#[]⟩ ≠ s
 | 0,_,j,hj => absurd hj (by omega)
 | k + 1,h,j,hj => by
  unfold lastAt at h
  split at h
  ·simp at h
  ·rename_i e
   by_cases hk : j = k
   ·subst hk; exact e
   ·exact lastAt_none h j (by omega)
def lastV (ks : List ByteArray) (l : List VT) (s : ByteArray) : VT:=match lastAt ks s ks.length with
 | some i => l.getD i VT0
 | none => VT0
def objV (ks : List ByteArray) (l : List VT) : VT:=.mk 6 false [] 0 ⟨#[]⟩ ((keysB ks).map (lastV ks l)) (keysB ks)
end Go.Proofs.YtkigpbkkhgabeaaGreatDoor
namespace Go.Proofs.YtkigpbkkhgabeaaGreatDoor
open Go.RowKit Go.Maps
theorem RdT.getD {w : World} {S : Nat → Prop} {K : Option Addr} {n k : Nat} {ks : List ByteArray} (h : RdT w S K n ks) (hk : k < n) : ∃ b off,K = some ⟨b,off,none⟩ ∧ S b ∧ w.cell? ⟨b,off + k,none⟩ = some (.string (ks.getD k ⟨#[]⟩)) ∧ (ks.getD k ⟨#[]⟩).size ≤ 140737488355328:=by
 obtain ⟨b,off,s,e,hS,hs,hc⟩:=h.at_ hk
 have hd : ks.getD k ⟨#[]⟩ = s:=by rw [List.getD_eq_getElem?_getD,hs]; rfl
 exact ⟨b,off,e,hS,by rw [hd]; exact hc,by rw [hd]; exact h.size hs⟩
theorem step_append_at {base : Nat} {e : TypeId} {i : TypeInfo} {z : Value} {size bytes n m c : Nat} {v : Value} {xs news : List Value} {ad : Addr} {w : World} {ops : Array Oper} {o : Oper} {a : Act} {K : Act → World → Prop} {Q : Exit → Act → World → Prop} {E : Prop} (hgd : o.guard = none) (s x : Operand) (t : TypeId)
  (ho : o.op = .call { callee:=.builtin .append,args:=#[s,x],argTypes:=#[t,t] })
  (ht : Tryz.prog.underlying t = some (.slice e)) (hi : Tryz.prog.info? e = some i) (hz : i.zero = some z)
  (hsize : i.size = size) (hby : i.bytes = bytes) (hzs : z.cells.size = size) (hsz : 0 < size)
  (hs : a.eval s = v) (hown : w.ownsRow base e size v n xs)
  (hx : a.eval x = .slice (some ad) m c) (hl : news.length = m * size) (hnews : ∀ j u,news[j]? = some u → w.cell? (ad.add j) = some u) (h1 : ∀ u ∈ news,u.oneCell' = true)
  (h63 : n + m ≤ maxLen) (hbytes : (n + m) * bytes ≤ 140737488355328) (hbase : base ≤ w.heap.size)
  (h : ∀ v' w',w'.ownsRow base e size v' (n + m) (xs ++ news) → w.grownBy w' v.ownBlock → (v' = .slice none 0 0 ↔ v = .slice none 0 0 ∧ m = 0) → (v'.ownBlock = v.ownBlock ∨ v'.ownBlock = some w.heap.size) → K (a.put o.dst v') w') :
  if Region.wanted o (yielded ops a.tmps) = true then Oper.wp Tryz.prog o a w K Q else E:=by
 have hw : Region.wanted o (yielded ops a.tmps) = true:=by simp [Region.wanted,hgd]
 rw [if_pos hw]
 obtain ⟨v',w',hr,h2,h3,h4,h5⟩:=run_append_own_at (P:=Tryz.prog) w base t o.type e i z size bytes ht hi hz hsize hby hzs hsz v n xs hown ad m c news hl hnews h1 h63 hbytes hbase
 unfold Oper.wp execOp
 simp only [ho,resolve,invoke,builtin,Sem.run_bind,Sem.run_pure,Result.andThen_ok,List.map_toArray,List.map_cons,List.map_nil,hs,hx,hr]
 exact h v' w' h2 h3 h4 h5
theorem new7 (w : World) (a0 a1 a2 a3 a4 a5 a6 : Value) (t : TypeId) : ∀ j u,[a0,a1,a2,a3,a4,a5,a6][j]? = some u → (w.alloc (.cells #[a0,a1,a2,a3,a4,a5,a6] t)).cell? ((⟨w.heap.size,0,none⟩ : Addr).add j) = some u:=by
 obtain ⟨x0,x1,x2,x3,x4,x5,x6⟩:=box7_of (World.alloc_heap_new w (.cells #[a0,a1,a2,a3,a4,a5,a6] t))
 intro j u h
 rw [Addr.add_lit,Nat.zero_add]
 match j,h with
 | 0,h => injection h with h; subst h; exact x0
 | 1,h => injection h with h; subst h; exact x1
 | 2,h => injection h with h; subst h; exact x2
 | 3,h => injection h with h; subst h; exact x3
 | 4,h => injection h with h; subst h; exact x4
 | 5,h => injection h with h; subst h; exact x5
 | 6,h => injection h with h; subst h; exact x6
def flatC (cs : Nat → List Value) (ix : Nat → Nat) (j : Nat) : List Value:=((List.range j).map fun q => cs (ix q)).flatten
theorem flatC_succ (cs : Nat → List Value) (ix : Nat → Nat) (j : Nat) : flatC cs ix (j + 1) = flatC cs ix j ++ cs (ix j):=by
 unfold flatC
 rw [List.range_succ]; simp
theorem flatC_length {cs : Nat → List Value} {ix : Nat → Nat} : ∀ {j : Nat},(∀ q,q < j → (cs (ix q)).length = 7) → (flatC cs ix j).length = j * 7
 | 0,_ => rfl
 | j + 1,h => by
  rw [flatC_succ,List.length_append,flatC_length fun q hq => h q (by omega),h j (by omega)]; omega
theorem flatC_get {cs : Nat → List Value} {ix : Nat → Nat} : ∀ {j : Nat},(∀ q,q < j → (cs (ix q)).length = 7) → ∀ i t,i < j → t < 7 → (flatC cs ix j)[i * 7 + t]? = (cs (ix i))[t]?
 | 0,_,i,t,hi,_ => absurd hi (by omega)
 | j + 1,h,i,t,hi,ht => by
  have hl:=flatC_length (cs:=cs) (ix:=ix) (j:=j) fun q hq => h q (by omega)
  rw [flatC_succ]
  by_cases hj : i = j
  ·subst hj
   rw [List.getElem?_append_right (by omega),hl,show i * 7 + t - i * 7 = t by omega]
  ·rw [List.getElem?_append_left (by omega)]
   exact flatC_get (fun q hq => h q (by omega)) i t (by omega) ht
end Go.Proofs.YtkigpbkkhgabeaaGreatDoor
namespace Go.Proofs.YtkigpbkkhgabeaaGreatDoor
open Go.Lib
inductive RR (α : Type) where
 | ok (a : α) (at_ : Nat)
 | bad (at_ : Nat) (e : Nat)
def RR.bind {α β : Type} (r : RR α) (f : α → Nat → RR β) : RR β :=
 match r with
 | .ok a q => f a q
 | .bad q e => .bad q e
abbrev Rd1 (α : Type):=List UInt8 → Nat → RR α
def rPure {α : Type} (a : α) : Rd1 α:=fun _ p => .ok a p
def rFail {α : Type} (e : Nat) : Rd1 α:=fun _ p => .bad p e
def rAt {α β : Type} (F : Rd1 α) (G : α → Rd1 β) : Rd1 β:=fun b p => (F b p).bind fun a q => G a b q
def isWs (c : UInt8) : Bool:=c == 32 || c == 9 || c == 10 || c == 13
def isDg (c : UInt8) : Bool:=48 ≤ c && c ≤ 57
def isWd (c : UInt8) : Bool:=isDg c || (97 ≤ c && c ≤ 122) || (65 ≤ c && c ≤ 90) || c == 43 || c == 45 || c == 46 || c == 95
def rPeek : Rd1 UInt8:=fun b p => match b[p]? with | some c => .ok c p | none => .bad p 8
def rNeed (f : UInt8 → Bool) : Rd1 Unit:=fun b p => match b[p]? with | some c => if f c then .ok () (p + 1) else .bad p 33 | none => .bad p 8
def rSkip (f : UInt8 → Bool) : Rd1 Bool:=fun b p => match b[p]? with | some c => if f c then .ok true (p + 1) else .ok false p | none => .ok false p
def rSkips (f : UInt8 → Bool) : Rd1 Unit:=fun b p => .ok () (p + ((b.drop p).takeWhile f).length)
def rApart : Rd1 Unit:=fun b p => match b[p]? with | some c => if isWd c then .bad p 33 else .ok () p | none => .ok () p
def fuelR : Nat:=70000
def rWord : List UInt8 → Rd1 Unit
 | [] => rApart
 | c :: r => rAt (rNeed (· == c)) fun _ => rWord r
def rDigits : Rd1 Unit:=rAt (rNeed isDg) fun _ => rSkips isDg
def rNumeral : Rd1 Unit :=
 rAt (rSkip (· == 45)) fun _ =>
 rAt (rSkip (· == 48)) fun z =>
 rAt (if z then rPure () else rDigits) fun _ =>
 rAt (rSkip (· == 46)) fun f =>
 rAt (if f then rDigits else rPure ()) fun _ =>
 rAt (rSkip fun c => c == 101 || c == 69) fun e =>
 if e then rAt (rSkip fun c => c == 43 || c == 45) fun _ => rDigits else rPure ()
def cutN (b : List UInt8) (p q : Nat) : List Nat:=((b.drop p).take (q - p)).map (·.toNat)
def numV (s : List Nat) : VT:=.mk 3 (fN s) (fZ s) (fX s) ⟨#[]⟩ [] []
def rNumber : Rd1 VT:=fun b p => (rNumeral b p).bind fun _ q =>
 if fE (cutN b p q) = 0 then (rApart b q).bind fun _ r => .ok (numV (cutN b p q)) r else .bad p (fE (cutN b p q))
def hexOf (c : UInt8) : Option Nat :=
 if 48 ≤ c && c ≤ 57 then some (c.toNat - 48) else if 97 ≤ c && c ≤ 102 then some (c.toNat - 87) else if 65 ≤ c && c ≤ 70 then some (c.toNat - 55) else none
def rHex : Nat → Nat → Rd1 Nat
 | 0,n => rPure n
 | k + 1,n => rAt rPeek fun c => match hexOf c with
  | some d => fun b p => rHex k (n * 16 + d) b (p + 1)
  | none => rFail 33
def rMust (from_ : Nat) (is : Bool) : Rd1 Unit:=fun _ p => if is then .ok () p else .bad from_ 33
def rLow (from_ : Nat) : Rd1 Nat :=
 rAt rPeek fun c => rAt (rMust from_ (c == 92)) fun _ => fun b p => (rAt rPeek fun d => rAt (rMust from_ (d == 117)) fun _ => fun b p =>
  (rAt (rHex 1 0) fun x => rAt (rMust from_ (x == 13)) fun _ => rAt (rHex 1 0) fun y => rAt (rMust from_ (decide (220 ≤ x * 16 + y))) fun _ =>
   rAt (rHex 2 0) fun z => rPure ((x * 16 + y) * 256 + z)) b (p + 1)) b (p + 1)
def rCoded (from_ : Nat) : Rd1 Int:=rAt (rHex 4 0) fun n =>
 if n < 55296 ∨ 57343 < n then rPure (n : Int)
 else if 56320 ≤ n then fun _ _ => .bad from_ 33
 else rAt (rLow from_) fun z => rPure (65536 + ((n : Int) - 55296) * 1024 + ((z : Int) - 56320))
def escOf (c : UInt8) : Option Int :=
 if c == 34 then some 34 else if c == 92 then some 92 else if c == 47 then some 47 else if c == 98 then some 8 else if c == 102 then some 12 else if c == 110 then some 10 else if c == 114 then some 13 else if c == 116 then some 9 else none
def rEscape : Rd1 Int:=fun b p => (rAt rPeek fun c => if c == 117 then fun b q => rCoded p b (q + 1) else match escOf c with
 | some x => fun _ q => .ok x (q + 1)
 | none => fun _ _ => .bad p 33) b (p + 1)
def fullL : List UInt8 → Bool
 | [] => false
 | a :: t =>
  if a < 194 ∨ 244 < a then true
  else if (if a < 224 then 1 else if a < 240 then 2 else 3) ≤ t.length then true
  else match t with
   | [] => false
   | c :: u =>
    if c < (if a = 224 then 160 else if a = 240 then 144 else 128) ∨ (if a = 237 then 159 else if a = 244 then 143 else 191) < c then true
    else match u with
     | [] => false
     | d :: _ => decide (d < 128 ∨ 191 < d)
def rChar : Rd1 Int:=rAt rPeek fun c =>
 if c == 92 then rEscape
 else if c < 32 then rFail 33
 else fun b p =>
  if fullL (b.drop p) then (if partOf (b.drop p) = -1 then .bad p 61 else .ok (partOf (b.drop p)) (p + wid (b.drop p))) else .bad b.length 8
def rChars : Nat → List UInt8 → Rd1 (List UInt8)
 | 0,_ => rFail 8
 | n + 1,acc => rAt rPeek fun c => if c == 34 then fun _ p => .ok acc (p + 1) else rAt rChar fun x => rChars n (acc ++ encodeRune x)
def rText : Rd1 ByteArray:=fun b p => (rChars fuelR [] b (p + 1)).bind fun t q => if 16384 < t.length then .bad p 5 else .ok ⟨t.toArray⟩ q
def rItemsF {α : Type} (end_ : UInt8) (item : Nat → Rd1 α) : Nat → Nat → Rd1 (List α)
 | 0,_ => rFail 8
 | n + 1,nth => rAt rPeek fun c => if c == end_ then fun _ p => .ok [] (p + 1)
  else rAt (if 1 < nth then rAt (rNeed (· == 44)) fun _ => rSkips isWs else rPure ()) fun _ =>
   rAt (item nth) fun a => rAt (rSkips isWs) fun _ => rAt (rItemsF end_ item n (nth + 1)) fun l => rPure (a :: l)
def rItems {α : Type} (end_ : UInt8) (item : Nat → Rd1 α) : Rd1 (List α):=fun b p => (rAt (rSkips isWs) fun _ => rItemsF end_ item fuelR 1) b (p + 1)
def rBegin (k nth : Nat) : Rd1 Unit:=rAt rPeek fun c =>
 if !(c == 91 || c == 123) && !isDg c && !(c == 34 || c == 45 || c == 110 || c == 102 || c == 116) then rFail 33
 else if (c == 91 || c == 123) && k == 0 then rFail 42
 else if 4096 < nth then rFail 3
 else rPure ()
def rKey (nth : Nat) : Rd1 ByteArray:=rAt rPeek fun c => if c == 34 then (if 4096 < nth then rFail 3 else rText) else rFail 33
def rHeld (from_ : Nat) (v : VT) : Rd1 VT:=fun _ q => if 16384 < (seen v).length then .bad from_ 3 else .ok v q
def numT0 (k : Int) : VT:=.mk k false [] 0 ⟨#[]⟩ [] []
def rValue (mk : List (ByteArray × VT) → VT) : Nat → Nat → Rd1 VT
 | 0,nth => rAt (rBegin 0 nth) fun _ => rAt rPeek fun c =>
  if c == 34 then rAt rText fun t => rPure (.mk 4 false [] 0 t [] [])
  else if c == 110 then rAt (rWord [110,117,108,108]) fun _ => rPure (numT0 0)
  else if c == 102 then rAt (rWord [102,97,108,115,101]) fun _ => rPure (numT0 1)
  else if c == 116 then rAt (rWord [116,114,117,101]) fun _ => rPure (numT0 2)
  else rNumber
 | k + 1,nth => rAt (rBegin (k + 1) nth) fun _ => rAt rPeek fun c =>
  if c == 91 then fun b p => (rItems 93 (rValue mk k) b p).bind fun l q => rHeld p (.mk 5 false [] 0 ⟨#[]⟩ l []) b q
  else if c == 123 then fun b p => (rItems 125 (fun n => rAt (rKey n) fun key => rAt (rSkips isWs) fun _ => rAt (rNeed (· == 58)) fun _ => rAt (rSkips isWs) fun _ => rAt (rValue mk k n) fun v => rPure (key,v)) b p).bind fun l q => rHeld p (mk l) b q
  else if c == 34 then rAt rText fun t => rPure (.mk 4 false [] 0 t [] [])
  else if c == 110 then rAt (rWord [110,117,108,108]) fun _ => rPure (numT0 0)
  else if c == 102 then rAt (rWord [102,97,108,115,101]) fun _ => rPure (numT0 1)
  else if c == 116 then rAt (rWord [116,114,117,101]) fun _ => rPure (numT0 2)
  else rNumber
def rNext (mk : List (ByteArray × VT) → VT) (b : List UInt8) (p : Nat) : RR (Option VT) :=
 if p + ((b.drop p).takeWhile isWs).length = b.length then .ok none b.length
 else (rValue mk 64 1 b (p + ((b.drop p).takeWhile isWs).length)).bind fun v q => .ok (some v) q
end Go.Proofs.YtkigpbkkhgabeaaGreatDoor
namespace Go.Proofs.YtkigpbkkhgabeaaGreatDoor
open Go.Lib
theorem u8_lt (a : UInt8) (n : Nat) (h : n < 256) : (a < UInt8.ofNat n) ↔ a.toNat < n:=by
 rw [UInt8.lt_iff_toNat_lt]
 simp [UInt8.toNat_ofNat,Nat.mod_eq_of_lt h]
theorem u8_gt (a : UInt8) (n : Nat) (h : n < 256) : (UInt8.ofNat n < a) ↔ n < a.toNat:=by
 rw [UInt8.lt_iff_toNat_lt]
 simp [UInt8.toNat_ofNat,Nat.mod_eq_of_lt h]
theorem u8_eq (a : UInt8) (n : Nat) (h : n < 256) : (a = UInt8.ofNat n) ↔ a.toNat = n:=by
 constructor
 ·rintro rfl
  simp [UInt8.toNat_ofNat,Nat.mod_eq_of_lt h]
 ·intro e
  apply UInt8.toNat.inj
  simp [UInt8.toNat_ofNat,Nat.mod_eq_of_lt h,e]
end Go.Proofs.YtkigpbkkhgabeaaGreatDoor
namespace Go.Proofs.YtkigpbkkhgabeaaGreatDoor
open Go.Lib
theorem drop_left {b r : List UInt8} {p : Nat} (h : p ≤ b.length) : (b ++ r).drop p = b.drop p ++ r:=List.drop_append_of_le_length h
end Go.Proofs.YtkigpbkkhgabeaaGreatDoor
