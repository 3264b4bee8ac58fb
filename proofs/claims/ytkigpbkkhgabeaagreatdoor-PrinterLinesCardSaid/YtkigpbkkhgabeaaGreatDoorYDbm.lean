import Derived.Test.YtkigpbkkhgabeaaGreatDoorYDref
import Derived.PlainAid
import Derived.Lib.ItoaNum
import Derived.Test.YtkigpbkkhgabeaaGreatDoorYNrefb
import Derived.Test.YtkigpbkkhgabeaaGreatDoorYDa
import Derived.Test.YtkigpbkkhgabeaaGreatDoorYDpar
import Derived.Laws.Concat
set_option linter.unusedVariables false
set_option linter.unusedSimpArgs false
namespace Go.Proofs.YtkigpbkkhgabeaaGreatDoor
open Go.RowKit
theorem ten_two (m : Nat) : (10 : Nat) ^ (3 * m) ≤ 2 ^ (10 * m):=by
 rw [Nat.pow_mul,Nat.pow_mul]
 exact Nat.pow_le_pow_left (by decide) m
theorem bp_two (n : Nat) : bp n = 2 ^ (32 * n):=by unfold bp; rw [Nat.pow_mul]
theorem lt_bp {v p m n : Nat} (h : v < 10 ^ p) (hp : p ≤ 3 * m) (hm : 10 * m ≤ 32 * n) : v < bp n:=by
 have h1 : (10 : Nat) ^ p ≤ 10 ^ (3 * m):=Nat.pow_le_pow_right (by omega) hp
 have h2:=ten_two m
 have h3 : (2 : Nat) ^ (10 * m) ≤ 2 ^ (32 * n):=Nat.pow_le_pow_right (by omega) hm
 rw [bp_two]
 exact Nat.lt_of_lt_of_le h (Nat.le_trans h1 (Nat.le_trans h2 h3))
theorem pow_le10 {p q : Nat} (h : p ≤ q) : dp p ≤ 10 ^ q:=Nat.pow_le_pow_right (by omega) h
theorem okB_true {neg : Bool} {xs : List Nat} {exp : Int} (hl : L32 xs) (h : okB neg xs exp = true) : Can xs ∧ xs.length ≤ 256 ∧ val xs < 10 ^ 300 ∧ (-1000 ≤ exp ∧ exp ≤ 1000) ∧ (xs.length = 0 → neg = false ∧ exp = 0) ∧ (xs.length ≠ 0 → nth (dOf (val xs)) 0 ≠ 0):=by
 unfold okB at h
 rw [Bool.and_eq_true,Bool.and_eq_true,decide_eq_true_eq,decide_eq_true_eq] at h
 obtain ⟨h1,h2,h3⟩:=h
 obtain ⟨c1,c2⟩:=can_of_chk hl h1
 have hv : val xs < 10 ^ 300:=by
  have h4:=dval_lt (dOf_can (val xs)).1
  rw [dOf_val] at h4
  obtain ⟨T,hT⟩ : ∃ T,T = 300:=⟨_,rfl⟩
  rw [← hT] at h2 ⊢
  exact Nat.lt_of_lt_of_le h4 (pow_le10 h2)
 by_cases h0 : xs.length = 0
 ·rw [if_pos h0,Bool.and_eq_true] at h3
  obtain ⟨h5,h6⟩:=h3
  have h7 : exp = 0:=by simpa using h6
  have h8 : neg = false:=by simpa using h5
  exact ⟨c1,c2,hv,by omega,fun _ => ⟨h8,h7⟩,fun h => absurd h0 h⟩
 ·rw [if_neg h0,Bool.and_eq_true,Bool.and_eq_true,decide_eq_true_eq,decide_eq_true_eq,decide_eq_true_eq] at h3
  exact ⟨c1,c2,hv,h3.2,fun h => absurd h h0,fun _ => h3.1⟩
theorem box3_of {w : World} {b : Nat} {v0 v1 v2 : Value} {t : TypeId} (h : w.heap[b]? = some (.cells #[v0,v1,v2] t)) : w.cell? ⟨b,0,none⟩ = some v0 ∧ w.cell? ⟨b,1,none⟩ = some v1 ∧ w.cell? ⟨b,2,none⟩ = some v2 :=
 ⟨cell_of h rfl,cell_of h rfl,cell_of h rfl⟩
theorem heldz {w w' : World} {b : Nat} {vs : Array Value} {t : TypeId} (hb : Below w.heap.size w w') (h : w.heap[b]? = some (.cells vs t)) : w'.heap[b]? = some (.cells vs t):=held hb (Array.getElem?_eq_some_iff.1 h).1 h
theorem heldA {w : World} {b : Nat} {vs : Array Value} {t : TypeId} (o : Obj) (h : w.heap[b]? = some (.cells vs t)) : (w.alloc o).heap[b]? = some (.cells vs t):=(Below.heap_alloc _ _ _ (Array.getElem?_eq_some_iff.1 h).1).trans h
theorem okB_len {neg : Bool} {xs : List Nat} {exp : Int} (h : okB neg xs exp = true) : (dOf (val xs)).length ≤ 300:=by
 unfold okB at h
 rw [Bool.and_eq_true,Bool.and_eq_true,decide_eq_true_eq,decide_eq_true_eq] at h
 exact h.2.1
end Go.Proofs.YtkigpbkkhgabeaaGreatDoor
namespace Go.Proofs.YtkigpbkkhgabeaaGreatDoor
open Go.RowKit
theorem octs_append (a b : ByteArray) : octs (a ++ b) = octs a ++ octs b:=by
 obtain ⟨a⟩:=a
 obtain ⟨b⟩:=b
 rw [ByteArray.mk_append_mk]
 unfold octs
 simp
theorem octs_rep (k : Nat) : octs ⟨(Lib.repeatL [48] k).toArray⟩ = List.replicate k 48:=by
 rw [octs_list]
 induction k with
 | zero => rfl
 | succ k ih =>
  unfold Lib.repeatL
  rw [List.map_append,ih,List.replicate_succ]; rfl
def itoO (z : Int) : List Nat:=(Lib.itoa z).map (·.toNat)
def plainT (ds : List Nat) (p : Int) : List Nat :=
 if p < 1 then [48,46] ++ (List.replicate (-p).toNat 48 ++ ds)
 else if p < (ds.length : Int) then ds.take p.toNat ++ 46 :: ds.drop p.toNat
 else ds ++ List.replicate (p - (ds.length : Int)).toNat 48
def powT (ds : List Nat) (p : Int) : List Nat :=
 (ds.take 1 ++ (if 1 < ds.length then 46 :: ds.drop 1 else [])) ++ (if p < 1 then 101 :: 45 :: itoO (1 - p) else 101 :: 43 :: itoO (p - 1))
theorem plainT_len (ds : List Nat) {p : Int} (h1 : -3000 ≤ p) (h2 : p ≤ 3000) : (plainT ds p).length ≤ ds.length + 3002:=by
 unfold plainT
 split
 ·simp; omega
 ·split
  ·simp; omega
  ·simp; omega
theorem powT_len (ds : List Nat) {p z : Int} (hz : z = if p < 1 then 1 - p else p - 1) (h : (itoO z).length ≤ 100) : (powT ds p).length ≤ ds.length + 110:=by
 unfold powT
 rw [List.length_append,List.length_append,List.length_take]
 have e1 : (if 1 < ds.length then 46 :: ds.drop 1 else ([] : List Nat)).length ≤ ds.length:=by split <;> simp; omega
 have e2 : (if p < 1 then 101 :: 45 :: itoO (1 - p) else 101 :: 43 :: itoO (p - 1)).length ≤ 102:=by
  by_cases hp : p < 1
  ·rw [if_pos hp] at hz
   subst hz
   rw [if_pos hp]; simp; omega
  ·rw [if_neg hp] at hz
   subst hz
   rw [if_neg hp]; simp; omega
 omega
theorem Repeat0_c (k : Nat) (z : Int) (w : World) (hz : z = (k : Int)) (hk : k ≤ 100000) :
  Calls Tryz.prog 106 #[.string ⟨#[48]⟩,.int .i64 z] w fun e w' => ∃ t,e = .returned (.string t) ∧ octs t = List.replicate k 48 ∧ t.size = k ∧ Below w.heap.size w w':=by
 subst hz
 refine (Tryz.strings_Repeat ⟨#[48]⟩ k w (by omega) (by show 1 * k ≤ _; omega)).mono ?_
 rintro e w' ⟨rfl,hb⟩
 have h1 : octs ⟨(Lib.repeatL [48] k).toArray⟩ = List.replicate k 48:=octs_rep k
 refine ⟨_,rfl,h1,?_,hb⟩
 have:=congrArg List.length h1
 rw [octs_length,List.length_replicate] at this
 exact this
set_option maxRecDepth 100000 in
theorem plain_c (s : ByteArray) (p : Int) (w : World) (hs : s.size ≤ 3000) (hp : -3000 ≤ p ∧ p ≤ 3000) :
  Calls Tryz.prog 73 #[.string s,.int .i64 p] w fun e w' => ∃ t,e = .returned (.string t) ∧ octs t = plainT (octs s) p ∧ t.size ≤ 10000 ∧ Below w.heap.size w w':=by
 suffices hh : Calls Tryz.prog 73 #[.string s,.int .i64 p] w fun e w' => ∃ t,e = .returned (.string t) ∧ octs t = plainT (octs s) p ∧ Below w.heap.size w w' by
  refine hh.mono ?_
  rintro e w' ⟨t,rfl,ht,hb⟩
  refine ⟨t,rfl,ht,?_,hb⟩
  have h1:=plainT_len (octs s) hp.1 hp.2
  rw [← ht,octs_length,octs_length] at h1
  omega
 obtain ⟨hp1,hp2⟩:=hp
 have HL:=Lib.hid (octs_length s)
 by_cases h1 : p < 1
 ·obtain ⟨k,hk⟩ : ∃ k : Nat,-p = (k : Int):=⟨(-p).toNat,by omega⟩
  have HE : Hid (plainT (octs s) p = [48,46] ++ (List.replicate k 48 ++ octs s)):=by
   show _ = _
   unfold plainT
   rw [if_pos h1,hk,Int.toNat_natCast]
  have HK:=Lib.hid hk
  clear hk
  go_enter Tryz.func73,Tryz.ntmps73
  go_wp2_with fail
  refine (Repeat0_c k _ _ HK.out (by have:=HK.out; omega)).mono ?_
  rintro e w1 ⟨t,rfl,ht,hts,hb1⟩
  have HT:=Lib.hid ht
  have htz : t.size ≤ 3000:=by have:=HK.out; omega
  clear ht hts
  go_wp2
  go_ret
  refine ⟨_,rfl,?_,hb1⟩
  rw [HE.out,octs_append,octs_append,HT.out,List.append_assoc]
  rfl
 ·by_cases h2 : p < (s.size : Int)
  ·obtain ⟨k,rfl⟩ : ∃ k : Nat,p = (k : Int):=⟨p.toNat,by omega⟩
   have hk1 : 1 ≤ k:=by omega
   have hks : k < s.size:=by omega
   have HE : Hid (plainT (octs s) (k : Int) = (octs s).take k ++ 46 :: (octs s).drop k):=by
    show _ = _
    unfold plainT
    rw [if_neg h1,if_pos (by rw [HL.out]; exact h2),Int.toNat_natCast]
   clear h1 h2
   go_enter Tryz.func73,Tryz.ntmps73
   go_wp2
   go_quiet (fail)
   go_wp2
   go_ret
   refine ⟨_,rfl,?_,below_drewN (Below.refl _ _) _⟩
   rw [HE.out,octs_append,octs_append,octs_take,octs_drop,List.append_assoc]
   rfl
  ·obtain ⟨k,hk⟩ : ∃ k : Nat,p - (s.size : Int) = (k : Int):=⟨(p - (s.size : Int)).toNat,by omega⟩
   have HE : Hid (plainT (octs s) p = octs s ++ List.replicate k 48):=by
    show _ = _
    unfold plainT
    rw [if_neg h1,if_neg (by rw [HL.out]; exact h2),HL.out,hk,Int.toNat_natCast]
   have HK:=Lib.hid hk
   clear hk
   go_enter Tryz.func73,Tryz.ntmps73
   go_wp2_with fail
   refine (Repeat0_c k _ _ HK.out (by have:=HK.out; omega)).mono ?_
   rintro e w1 ⟨t,rfl,ht,hts,hb1⟩
   have HT:=Lib.hid ht
   have htz : t.size ≤ 3000:=by have:=HK.out; omega
   clear ht hts
   go_wp2
   go_ret
   refine ⟨_,rfl,?_,hb1⟩
   rw [HE.out,octs_append,HT.out]
def ItoaOk (B : Nat) (w : World) (z : Int) : Prop:=∀ W,Below B w W → Calls Tryz.prog 105 #[.int .i64 z] W fun e w' => ∃ t,e = .returned (.string t) ∧ octs t = itoO z ∧ t.size ≤ 100 ∧ Below W.heap.size W w'
set_option maxRecDepth 100000 in
theorem withPower_c (s : ByteArray) (p z : Int) (w : World) (hs : 0 < s.size) (hs2 : s.size ≤ 3000) (hp : -3000 ≤ p ∧ p ≤ 3000) (hz : z = if p < 1 then 1 - p else p - 1) (hI : ItoaOk w.heap.size w z) :
  Calls Tryz.prog 72 #[.string s,.int .i64 p] w fun e w' => ∃ t,e = .returned (.string t) ∧ octs t = powT (octs s) p ∧ t.size ≤ 10000 ∧ Below w.heap.size w w':=by
 suffices hh : Calls Tryz.prog 72 #[.string s,.int .i64 p] w fun e w' => ∃ t,e = .returned (.string t) ∧ octs t = powT (octs s) p ∧ (itoO z).length ≤ 100 ∧ Below w.heap.size w w' by
  refine hh.mono ?_
  rintro e w' ⟨t,rfl,ht,h0,hb⟩
  refine ⟨t,rfl,ht,?_,hb⟩
  have h1:=powT_len (octs s) hz h0
  rw [← ht,octs_length,octs_length] at h1
  omega
 obtain ⟨hp1,hp2⟩:=hp
 have HL:=Lib.hid (octs_length s)
 have HI:=Lib.hid hI
 clear hI
 by_cases h1 : p < 1
 ·rw [if_pos h1] at hz
  subst hz
  by_cases h2 : 1 < s.size
  ·have HE : Hid (powT (octs s) p = ((octs s).take 1 ++ 46 :: (octs s).drop 1) ++ 101 :: 45 :: itoO (1 - p)):=by
    show _ = _
    unfold powT
    rw [if_pos h1,if_pos (by rw [HL.out]; exact h2)]
   go_enter Tryz.func72,Tryz.ntmps72
   go_wp2_with fail
   refine (HI.out _ (Below.refl _ _)).mono ?_
   rintro e w1 ⟨t,rfl,ht,hts,hb1⟩
   have htl : Hid ((itoO (1 - p)).length ≤ 100):=by show _ ≤ _; rw [← ht,octs_length]; exact hts
   have HT:=Lib.hid ht
   clear ht
   go_wp2
   go_ret
   refine ⟨_,rfl,?_,htl.out,hb1⟩
   rw [HE.out]
   simp only [octs_append,octs_take,octs_drop,HT.out,List.append_assoc]
   rfl
  ·have HE : Hid (powT (octs s) p = ((octs s).take 1 ++ []) ++ 101 :: 45 :: itoO (1 - p)):=by
    show _ = _
    unfold powT
    rw [if_pos h1,if_neg (by rw [HL.out]; exact h2)]
   go_enter Tryz.func72,Tryz.ntmps72
   go_wp2_with fail
   refine (HI.out _ (Below.refl _ _)).mono ?_
   rintro e w1 ⟨t,rfl,ht,hts,hb1⟩
   have htl : Hid ((itoO (1 - p)).length ≤ 100):=by show _ ≤ _; rw [← ht,octs_length]; exact hts
   have HT:=Lib.hid ht
   clear ht
   go_wp2
   go_ret
   refine ⟨_,rfl,?_,htl.out,hb1⟩
   rw [HE.out]
   simp only [octs_append,octs_take,octs_drop,HT.out,List.append_assoc,List.nil_append]
   rfl
 ·rw [if_neg h1] at hz
  subst hz
  by_cases h2 : 1 < s.size
  ·have HE : Hid (powT (octs s) p = ((octs s).take 1 ++ 46 :: (octs s).drop 1) ++ 101 :: 43 :: itoO (p - 1)):=by
    show _ = _
    unfold powT
    rw [if_neg h1,if_pos (by rw [HL.out]; exact h2)]
   go_enter Tryz.func72,Tryz.ntmps72
   go_wp2_with fail
   refine (HI.out _ (Below.refl _ _)).mono ?_
   rintro e w1 ⟨t,rfl,ht,hts,hb1⟩
   have htl : Hid ((itoO (p - 1)).length ≤ 100):=by show _ ≤ _; rw [← ht,octs_length]; exact hts
   have HT:=Lib.hid ht
   clear ht
   go_wp2
   go_ret
   refine ⟨_,rfl,?_,htl.out,hb1⟩
   rw [HE.out]
   simp only [octs_append,octs_take,octs_drop,HT.out,List.append_assoc]
   rfl
  ·have HE : Hid (powT (octs s) p = ((octs s).take 1 ++ []) ++ 101 :: 43 :: itoO (p - 1)):=by
    show _ = _
    unfold powT
    rw [if_neg h1,if_neg (by rw [HL.out]; exact h2)]
   go_enter Tryz.func72,Tryz.ntmps72
   go_wp2_with fail
   refine (HI.out _ (Below.refl _ _)).mono ?_
   rintro e w1 ⟨t,rfl,ht,hts,hb1⟩
   have htl : Hid ((itoO (p - 1)).length ≤ 100):=by show _ ≤ _; rw [← ht,octs_length]; exact hts
   have HT:=Lib.hid ht
   clear ht
   go_wp2
   go_ret
   refine ⟨_,rfl,?_,htl.out,hb1⟩
   rw [HE.out]
   simp only [octs_append,octs_take,octs_drop,HT.out,List.append_assoc,List.nil_append]
   rfl
end Go.Proofs.YtkigpbkkhgabeaaGreatDoor
namespace Go.Proofs.YtkigpbkkhgabeaaGreatDoor
open Go.RowKit
def numO (v : Nat) : List Nat:=if v = 0 then [48] else (chars (dOf v)).reverse
theorem isDec_numO {v : Nat} {s : ByteArray} (h : IsDec v s) : octs s = numO v:=by
 unfold numO
 by_cases h0 : v = 0
 ·rw [if_pos h0]
  rcases h with ⟨_,rfl⟩ | ⟨h1,_⟩
  ·exact octs_txt (L8.one (by omega))
  ·omega
 ·rw [if_neg h0]
  exact isDec_octs2 h (by omega)
theorem numO_length {v : Nat} {s : ByteArray} (h : IsDec v s) : (numO v).length = s.size:=by rw [← isDec_numO h,octs_length]
def prtAt (neg : Bool) (ds : List Nat) (p : Int) : List Nat:=(if neg = true then [45] else []) ++ (if -5 ≤ p ∧ p ≤ 21 then plainT ds p else powT ds p)
def prt (neg : Bool) (v : Nat) (exp : Int) : List Nat:=prtAt neg (numO v) (((numO v).length : Int) + exp)
def prz (v : Nat) (exp : Int) : Int:=if ((numO v).length : Int) + exp < 1 then 1 - (((numO v).length : Int) + exp) else ((numO v).length : Int) + exp - 1
theorem ItoaOk.on {B B' : Nat} {w w' : World} {z : Int} (h : ItoaOk B w z) (hb : Below B w w') (hB : B ≤ B') : ItoaOk B' w' z:=fun W hW => h W (hb.trans (hW.mono hB))
theorem numO_le {v : Nat} (h : (dOf v).length ≤ 300) : (numO v).length ≤ 300 ∧ 0 < (numO v).length:=by
 unfold numO
 by_cases h0 : v = 0
 ·rw [if_pos h0]; decide
 ·rw [if_neg h0,List.length_reverse]
  have:=List.length_pos_iff.2 (dOf_ne (v:=v) (by omega))
  simp [chars]
  omega
set_option maxRecDepth 100000 in
set_option maxHeartbeats 1000000 in
theorem DPrint_ok {S : Nat → Prop} {n c : Nat} {A : Option Addr} {xs : List Nat} (neg : Bool) (exp : Int) (w : World) (ha : Rd w S A n xs) (hS : ∀ b,S b → b < w.heap.size) (hn : n ≤ 9223372036854775807) (hok : okB neg xs exp = true) (hI : ItoaOk w.heap.size w (prz (val xs) exp)) :
  Calls Tryz.prog 48 #[dv neg A n c exp] w fun e w' => ∃ t,e = .returned (.tuple #[.string t,.int .i64 0]) ∧ octs t = prt neg (val xs) exp ∧ Below w.heap.size w w':=by
 obtain ⟨a1,a2,_,⟨x1,x2⟩,_,_⟩:=okB_true ha.l32 hok
 obtain ⟨l1,l2⟩:=numO_le (okB_len hok)
 have hn2 : n ≤ 256:=by rw [← ha.len]; exact a2
 obtain ⟨p,hp⟩ : ∃ p : Int,p = ((numO (val xs)).length : Int) + exp:=⟨_,rfl⟩
 have HI:=Lib.hid hI
 have hcheck : okE neg xs exp = 0:=by unfold okE; rw [if_pos hok]
 have hprt : Hid (prt neg (val xs) exp = prtAt neg (numO (val xs)) p):=by show _ = _; unfold prt; rw [hp]
 have hprz : Hid (prz (val xs) exp = if p < 1 then 1 - p else p - 1):=by show _ = _; unfold prz; rw [← hp]
 have hb0 : Below w.heap.size w (w.alloc (.cells #[.bool neg,.slice A n c,.int .i64 exp] 24)):=(Below.refl _ _).alloc (Nat.le_refl _) _
 have hC:=DCheck_c (c:=c) neg exp (w.alloc (.cells #[.bool neg,.slice A n c,.int .i64 exp] 24)) (ha.below hb0 hS) (fun b h => by have:=hS b h; simp; omega) hn
 rw [hcheck] at hC
 unfold dv at hC ⊢
 have HC:=Lib.hid hC
 have HP:=Lib.hid hp
 clear hC hI hcheck hok hp
 have hpb : -1000 ≤ p ∧ p ≤ 1300:=by have:=HP.out; omega
 obtain ⟨hpa,hpb⟩:=hpb
 have m0:=World.alloc_heap_new w (.cells #[.bool neg,.slice A n c,.int .i64 exp] 24)
 have hsz : (w.alloc (.cells #[.bool neg,.slice A n c,.int .i64 exp] 24)).heap.size = w.heap.size + 1:=by simp
 go_enter Tryz.func48,Tryz.ntmps48
 go_wp2_with fail
 refine HC.out.mono ?_
 rintro e w1 ⟨rfl,hb1⟩
 have m1:=held hb1 (by omega) m0
 have hw1:=hb0.trans (hb1.mono (by omega))
 have q1 : w1.cell? ⟨w.heap.size,1,none⟩ = some (.slice A n c):=cell_of m1 rfl
 go_wp2_with fail
 refine (Print_ok (c:=c) w1 (ha.below hw1 hS) (fun b h => by have:=hS b h; have:=hw1.size; omega) a1 hn2).mono ?_
 rintro e w2 ⟨s,rfl,hs,hb2⟩
 have hsl:=numO_length hs
 have HSO:=Lib.hid (isDec_numO hs)
 have hw2:=hw1.trans (hb2.mono hw1.size)
 have m2:=held hb2 (by have:=hb1.size; omega) m1
 have q0 : w2.cell? ⟨w.heap.size,0,none⟩ = some (.bool neg):=cell_of m2 rfl
 have q2 : w2.cell? ⟨w.heap.size,2,none⟩ = some (.int .i64 exp):=cell_of m2 rfl
 have hs3 : s.size ≤ 300:=by omega
 have hs0 : 0 < s.size:=by omega
 have hpe : (s.size : Int) + exp = p:=by have:=HP.out; omega
 clear hs hsl q1
 go_wp2_with fail
 refine (withPower_c s p _ w2 hs0 (by omega) ⟨by omega,by omega⟩ hprz.out (HI.out.on hw2 hw2.size)).mono ?_
 rintro e w3 ⟨t,rfl,ht,hts,hb3⟩
 have HT:=Lib.hid ht
 have hw3:=hw2.trans (hb3.mono hw2.size)
 have m3:=held hb3 (by have:=hw2.size; have:=(Array.getElem?_eq_some_iff.1 m2).1; omega) m2
 have r0 : w3.cell? ⟨w.heap.size,0,none⟩ = some (.bool neg):=cell_of m3 rfl
 clear ht q0 q2
 by_cases hr : -5 ≤ p ∧ p ≤ 21
 ·have HE : Hid (prtAt neg (octs s) p = (if neg = true then [45] else []) ++ plainT (octs s) p):=by show _ = _; unfold prtAt; rw [if_pos hr]
  obtain ⟨hr1,hr2⟩:=hr
  go_wp2_with fail
  refine (plain_c s p w3 (by omega) ⟨by omega,by omega⟩).mono ?_
  rintro e w4 ⟨t4,rfl,ht4,hts4,hb4⟩
  have HT4:=Lib.hid ht4
  have hw4:=hw3.trans (hb4.mono hw3.size)
  have m4:=held hb4 (by have:=hw3.size; have:=(Array.getElem?_eq_some_iff.1 m3).1; omega) m3
  have r4 : w4.cell? ⟨w.heap.size,0,none⟩ = some (.bool neg):=cell_of m4 rfl
  clear ht4 r0
  cases neg
  ·go_wp2
   go_ret2
   refine ⟨_,rfl,?_,hw4⟩
   rw [hprt.out,← HSO.out,HE.out,HT4.out]; rfl
  ·go_wp2
   go_ret2
   refine ⟨_,rfl,?_,hw4⟩
   rw [hprt.out,← HSO.out,HE.out,octs_append,HT4.out]; rfl
 ·have HE : Hid (prtAt neg (octs s) p = (if neg = true then [45] else []) ++ powT (octs s) p):=by show _ = _; unfold prtAt; rw [if_neg hr]
  have hrr : p < -5 ∨ 21 < p:=by omega
  clear hr
  rcases hrr with hr | hr
  all_goals
   cases neg
   ·go_wp2
    go_ret2
    refine ⟨_,rfl,?_,hw3⟩
    rw [hprt.out,← HSO.out,HE.out,HT.out]; rfl
   ·go_wp2
    go_ret2
    refine ⟨_,rfl,?_,hw3⟩
    rw [hprt.out,← HSO.out,HE.out,octs_append,HT.out]; rfl
set_option maxRecDepth 100000 in
theorem DPrint_err {S : Nat → Prop} {n c : Nat} {A : Option Addr} {xs : List Nat} (neg : Bool) (exp : Int) (w : World) (ha : Rd w S A n xs) (hS : ∀ b,S b → b < w.heap.size) (hn : n ≤ 9223372036854775807) (hok : okB neg xs exp = false) :
  Calls Tryz.prog 48 #[dv neg A n c exp] w fun e w' => e = .returned (.tuple #[.string ⟨#[]⟩,.int .i64 9]) ∧ Below w.heap.size w w':=by
 have hb0 : Below w.heap.size w (w.alloc (.cells #[.bool neg,.slice A n c,.int .i64 exp] 24)):=(Below.refl _ _).alloc (Nat.le_refl _) _
 have hC:=DCheck_c (c:=c) neg exp (w.alloc (.cells #[.bool neg,.slice A n c,.int .i64 exp] 24)) (ha.below hb0 hS) (fun b h => by have:=hS b h; simp; omega) hn
 have hcheck : okE neg xs exp = 9:=by unfold okE; rw [if_neg (by rw [hok]; decide)]
 rw [hcheck] at hC
 unfold dv at hC ⊢
 have HC:=Lib.hid hC
 clear hC hcheck hok
 go_enter Tryz.func48,Tryz.ntmps48
 go_wp2_with fail
 refine HC.out.mono ?_
 rintro e w1 ⟨rfl,hb1⟩
 go_wp2
 go_ret2
 exact ⟨rfl,hb0.trans (hb1.mono (by simp))⟩
end Go.Proofs.YtkigpbkkhgabeaaGreatDoor
namespace Go.Proofs.YtkigpbkkhgabeaaGreatDoor
def sg (neg : Bool) (v : Nat) : Int:=if neg = true then -(v : Int) else (v : Int)
def sp (e : Int) : Nat:=10 ^ (e + 5000).toNat
def sv (neg : Bool) (v : Nat) (e : Int) : Int:=sg neg (v * sp e)
theorem sp_pos (e : Int) : 0 < sp e:=Nat.pow_pos (by omega)
theorem sp_add {e : Int} {p : Nat} (h : -5000 ≤ e) : sp (e + (p : Int)) = 10 ^ p * sp e:=by
 unfold sp
 rw [show (e + (p : Int) + 5000).toNat = p + (e + 5000).toNat by omega,Nat.pow_add]
theorem sg_zero (neg : Bool) : sg neg 0 = 0:=by cases neg <;> rfl
theorem sg_mul (neg : Bool) (v k : Nat) : sg neg (v * k) = sg neg v * (k : Int):=by
 cases neg
 ·show ((v * k : Nat) : Int) = (v : Int) * (k : Int); simp
 ·show -((v * k : Nat) : Int) = -(v : Int) * (k : Int); simp [Int.neg_mul]
theorem sg_natAbs (neg : Bool) (v : Nat) : (sg neg v).natAbs = v:=by cases neg <;> simp [sg]
theorem sg_inj {na nb : Bool} {X Y : Nat} (h : sg na X = sg nb Y) : X = Y ∧ (0 < X → na = nb):=by
 have h1 : X = Y:=by rw [← sg_natAbs na X,h,sg_natAbs]
 refine ⟨h1,fun h0 => ?_⟩
 subst h1
 cases na <;> cases nb <;> simp [sg] at h <;> first | rfl | omega
theorem dOf_low (v : Nat) : nth (dOf v) 0 = v % 10:=by
 rcases Nat.eq_zero_or_pos v with h | h
 ·subst h; rfl
 ·obtain ⟨f,rfl⟩ : ∃ f,v = f + 1:=⟨v - 1,by omega⟩
  unfold dOf dgOf
  rw [if_neg (by omega),nth_cons_zero]
theorem pow_cancel {v1 v2 a b : Nat} (h1 : v1 % 10 ≠ 0) (h : v1 * 10 ^ a = v2 * 10 ^ b) : b ≤ a ∧ v2 = v1 * 10 ^ (a - b):=by
 have hle : b ≤ a:=by
  rcases Nat.lt_or_ge a b with h2 | h2
  ·exfalso
   obtain ⟨d,rfl⟩ : ∃ d,b = a + 1 + d:=⟨b - a - 1,by omega⟩
   rw [Nat.pow_add,Nat.pow_add,Nat.pow_one] at h
   have h3 : v1 * 10 ^ a = (v2 * 10 * 10 ^ d) * 10 ^ a:=by rw [h]; ac_rfl
   have h4:=Nat.eq_of_mul_eq_mul_right (Nat.pow_pos (by omega)) h3
   apply h1
   rw [h4,show v2 * 10 * 10 ^ d = 10 * (v2 * 10 ^ d) by ac_rfl]
   exact Nat.mul_mod_right _ _
  ·exact h2
 refine ⟨hle,?_⟩
 have h3 : v2 * 10 ^ b = (v1 * 10 ^ (a - b)) * 10 ^ b:=by
  rw [← h,Nat.mul_assoc,← Nat.pow_add,Nat.sub_add_cancel hle]
 exact Nat.eq_of_mul_eq_mul_right (Nat.pow_pos (by omega)) h3
theorem okB_cases {neg : Bool} {xs : List Nat} {exp : Int} (hl : L32 xs) (h : okB neg xs exp = true) :
  (xs = [] ∧ neg = false ∧ exp = 0) ∨ (0 < val xs ∧ val xs % 10 ≠ 0):=by
 obtain ⟨a1,_,_,_,a5,a6⟩:=okB_true hl h
 by_cases h0 : xs.length = 0
 ·exact .inl ⟨List.eq_nil_of_length_eq_zero h0,a5 h0⟩
 ·have h2:=a6 h0
  rw [dOf_low] at h2
  exact .inr ⟨by omega,h2⟩
theorem settle_back {na s : Bool} {xs : List Nat} {e1 lo : Int} {Z : Nat} (hx : L32 xs) (h1 : okB na xs e1 = true) (hlo : -5000 ≤ lo) (h : sg s Z * (sp lo : Int) = sv na (val xs) e1) :
  stE Z lo = 0 ∧ stN s Z lo = na ∧ stX Z lo = e1 ∧ stZ Z lo = xs:=by
 rw [← sg_mul] at h
 obtain ⟨hm,hs⟩:=sg_inj h
 obtain ⟨c1,c2,c3,r1,_,_⟩:=okB_true hx h1
 rcases okB_cases hx h1 with ⟨z1,z2,z3⟩ | ⟨z1,z2⟩
 ·have hZ : Z = 0:=by
   have h0 : Z * sp lo = 0:=by rw [hm,z1]; exact Nat.zero_mul _
   rcases Nat.mul_eq_zero.1 h0 with h3 | h3
   ·exact h3
   ·have:=sp_pos lo; omega
  rw [hZ,z1,z2,z3]
  exact st_zero s lo
 ·have hZp : 0 < Z * sp lo:=by rw [hm]; exact Nat.mul_pos z1 (sp_pos e1)
  have hsn:=hs hZp
  subst hsn
  unfold sp at hm
  obtain ⟨l1,v1⟩:=pow_cancel z2 hm.symm
  obtain ⟨k,hk⟩ : ∃ k,k = (e1 + 5000).toNat - (lo + 5000).toNat:=⟨_,rfl⟩
  rw [← hk] at v1
  have hke : lo + (k : Int) = e1:=by omega
  have hl : (dOf (val xs)).length ≤ 300:=by
   have h3:=h1
   unfold okB at h3
   rw [Bool.and_eq_true,Bool.and_eq_true,decide_eq_true_eq,decide_eq_true_eq] at h3
   exact h3.2.1
  have h4:=st_ok (v:=Z) (k:=k) (exp:=lo) (es:=dOf (val xs)) s (dOf_can _) (by rw [dOf_low]; exact z2) (by rw [dOf_val,v1,Nat.mul_comm]; rfl) hl (by omega)
  rw [hke,dOf_val,← eq_lim c1] at h4
  exact h4
theorem settle_may {s : Bool} {lo : Int} {Z : Nat} (hlo : -5000 ≤ lo) (h : stE Z lo = 0) :
  okB (stN s Z lo) (stZ Z lo) (stX Z lo) = true ∧ L32 (stZ Z lo) ∧ sv (stN s Z lo) (val (stZ Z lo)) (stX Z lo) = sg s Z * (sp lo : Int) ∧ (0 < Z → lo ≤ stX Z lo):=by
 by_cases hZ : Z = 0
 ·obtain ⟨z1,z2,z3,z4⟩:=st_zero s lo
  rw [hZ,z2,z3,z4,sg_zero]
  refine ⟨by decide,L32.nil,by simp [sv,val,sg],fun h => absurd h (by omega)⟩
 ·have hg : stG Z lo = true:=by unfold stG; rw [decide_eq_true hZ,decide_eq_true h]; rfl
  unfold stE at h
  rw [if_neg hZ] at h
  by_cases hb : 300 < (cf Z).length
  ·rw [if_pos hb] at h; omega
  ·rw [if_neg hb] at h
   by_cases hx : -1000 ≤ lo + (lz (dOf Z) : Int) ∧ lo + (lz (dOf Z) : Int) ≤ 1000
   ·have hc : DCan (cf Z):=(dOf_can Z).drop _
    have hv : Z = dp (lz (dOf Z)) * dval (cf Z):=by
     have:=lz_drop (dOf Z)
     rw [dOf_val] at this
     exact this
    have hh : nth (cf Z) 0 ≠ 0:=lz_head (dOf Z) (by rw [dOf_val]; omega)
    have hp : 0 < dval (cf Z):=by
     rcases Nat.eq_zero_or_pos (dval (cf Z)) with h0 | h0
     ·rw [h0] at hv; omega
     ·exact h0
    have hlt : dval (cf Z) < 10 ^ 300:=by
     have h4:=dval_lt hc.1
     obtain ⟨T,hT⟩ : ∃ T,T = 300:=⟨_,rfl⟩
     rw [← hT] at hb ⊢
     exact Nat.lt_of_lt_of_le h4 (pow_le10 (by omega))
    have hbp : dval (cf Z) < bp 256:=lt_bp (m:=100) hlt (by omega) (by omega)
    have e1 : stN s Z lo = s:=if_pos hg
    have e2 : stX Z lo = lo + (lz (dOf Z) : Int):=if_pos hg
    have e3 : stZ Z lo = lim (dval (cf Z)):=if_pos hg
    rw [e1,e2,e3,lim_val]
    refine ⟨?_,(lim_can _).1,?_,fun _ => by omega⟩
    ·unfold okB
     rw [chk_can (lim_can _) (lim_len hbp),lim_val,← eq_dOf hc,decide_eq_true hh,decide_eq_true (show (cf Z).length ≤ 300 by omega),decide_eq_true hx.1,decide_eq_true hx.2,if_neg]
     ·rfl
     ·intro h0
      have : lim (dval (cf Z)) = []:=List.eq_nil_of_length_eq_zero h0
      have h5:=lim_val (dval (cf Z))
      rw [this] at h5
      simp [val] at h5
      omega
    ·unfold sv
     rw [sp_add hlo,← sg_mul,← Nat.mul_assoc]
     congr 2
     rw [Nat.mul_comm]
     exact hv.symm
   ·rw [if_neg hx] at h; omega
end Go.Proofs.YtkigpbkkhgabeaaGreatDoor
namespace Go.Proofs.YtkigpbkkhgabeaaGreatDoor
open Go.RowKit
theorem nth_at (A : List Nat) (c : Nat) (B : List Nat) : nth (A ++ c :: B) A.length = c:=by
 unfold nth
 rw [List.getD_eq_getElem?_getD,List.getElem?_append_right (Nat.le_refl _),Nat.sub_self]; rfl
theorem nth_end (A : List Nat) : nth A A.length = 0:=nth_none (Nat.le_refl _)
def NoDig (B : List Nat) : Prop:=B = [] ∨ ∃ c r,B = c :: r ∧ isDig c = false
theorem tw_allD {R : List Nat} (h : allDig R = true) {B : List Nat} (hB : NoDig B) : (R ++ B).takeWhile isDig = R:=by
 induction R with
 | nil =>
  rcases hB with rfl | ⟨c,r,rfl,hc⟩
  ·rfl
  ·rw [List.nil_append,List.takeWhile_cons_of_neg (by rw [hc]; decide)]
 | cons c R ih =>
  simp [allDig] at h
  rw [List.cons_append,List.takeWhile_cons_of_pos h.1,ih (by simp [allDig]; exact h.2)]
theorem dEnd_run {A R B : List Nat} (h : allDig R = true) (hB : NoDig B) : dEnd (A ++ (R ++ B)) A.length = A.length + R.length:=by
 unfold dEnd
 rw [List.drop_left,tw_allD h hB]
structure Pcs (sg wh fp pp : List Nat) : Prop where
 sg : sg = [] ∨ sg = [45]
 wh : wh = [48] ∨ ∃ c r,wh = c :: r ∧ allDig wh = true ∧ c ≠ 48
 fp : fp = [] ∨ ∃ f,fp = 46 :: f ∧ allDig f = true ∧ f ≠ []
 pp : pp = [] ∨ ∃ e s p,pp = e :: (s ++ p) ∧ (e = 101 ∨ e = 69) ∧ (s = [] ∨ s = [43] ∨ s = [45]) ∧ allDig p = true ∧ p ≠ []
theorem Pcs.parts {sg wh fp pp : List Nat} (h : Pcs sg wh fp pp) : Parts (sg ++ (wh ++ (fp ++ pp))) sg wh fp pp:=by
 refine ⟨rfl,h.sg,?_,h.fp,h.pp⟩
 rcases h.wh with rfl | ⟨c,r,rfl,h1,_⟩
 ·exact ⟨by decide,by simp⟩
 ·exact ⟨h1,by simp⟩
theorem isDig_46 : isDig 46 = false:=by decide
theorem Pcs.noDig2 {sg wh fp pp : List Nat} (h : Pcs sg wh fp pp) : NoDig pp:=by
 rcases h.pp with rfl | ⟨e,s,p,rfl,he,_⟩
 ·exact .inl rfl
 ·refine .inr ⟨e,_,rfl,?_⟩
  rcases he with rfl | rfl <;> decide
theorem Pcs.noDig1 {sg wh fp pp : List Nat} (h : Pcs sg wh fp pp) : NoDig (fp ++ pp):=by
 rcases h.fp with e | ⟨f,e,_⟩
 ·rw [e]; exact h.noDig2
 ·rw [e]; exact .inr ⟨46,f ++ pp,rfl,isDig_46⟩
theorem Pcs.form {sg wh fp pp : List Nat} (h : Pcs sg wh fp pp) : form (sg ++ (wh ++ (fp ++ pp))) = some (sg ++ (wh ++ (fp ++ pp))).length:=by
 obtain ⟨d,r,hw,hd⟩ : ∃ d r,wh = d :: r ∧ isDig d = true:=by
  rcases h.wh with e | ⟨c,r,e,h1,_⟩
  ·exact ⟨48,[],e,by decide⟩
  ·refine ⟨c,r,e,?_⟩
   rw [e] at h1
   simp [allDig] at h1
   exact h1.1
 have hwd : allDig wh = true:=by
  rcases h.wh with e | ⟨c,r,e,h1,_⟩
  ·rw [e]; decide
  ·exact h1
 have hs : fSgn (sg ++ (wh ++ (fp ++ pp))) = sg.length:=by
  unfold fSgn
  rcases h.sg with e | e
  ·rw [e,hw,List.nil_append,if_neg]
   ·rfl
   ·show ¬ nth (d :: (r ++ (fp ++ pp))) 0 = 45
    have : nth (d :: (r ++ (fp ++ pp))) 0 = d:=rfl
    rw [this]
    intro e2
    rw [e2] at hd
    cases hd
  ·rw [e,if_pos (show nth ([45] ++ (wh ++ (fp ++ pp))) 0 = 45 from rfl)]; rfl
 have hn0 : nth (sg ++ (wh ++ (fp ++ pp))) sg.length = d:=by rw [hw]; exact nth_at sg d _
 have h1 : fWhole (sg ++ (wh ++ (fp ++ pp))) sg.length = some (sg.length + wh.length):=by
  unfold fWhole
  rw [hn0,if_pos hd]
  by_cases h48 : d = 48
  ·rw [if_pos h48]
   rcases h.wh with e | ⟨c,r2,e,_,hc⟩
   ·rw [e]; rfl
   ·rw [e] at hw
    injection hw with hw1
    exact absurd (hw1.trans h48) hc
  ·rw [if_neg h48,dEnd_run hwd h.noDig1]
 have h2 : fFrac (sg ++ (wh ++ (fp ++ pp))) (sg.length + wh.length) = some (sg.length + wh.length + fp.length):=by
  have e0 : sg ++ (wh ++ (fp ++ pp)) = (sg ++ wh) ++ (fp ++ pp):=by simp
  have l0 : sg.length + wh.length = (sg ++ wh).length:=by simp
  rw [e0,l0]
  unfold fFrac
  rcases h.fp with e | ⟨f,e,hf,hne⟩
  ·rw [e,List.nil_append]
   rw [if_neg]
   ·rfl
   ·rcases h.pp with e2 | ⟨x,s,p,e2,hx,_⟩
    ·rw [e2,List.append_nil,nth_end]; omega
    ·rw [e2,nth_at]; omega
  ·have e3 : (sg ++ wh) ++ (fp ++ pp) = (sg ++ wh) ++ 46 :: (f ++ pp):=by rw [e]; rfl
   have e4 : (sg ++ wh) ++ 46 :: (f ++ pp) = ((sg ++ wh) ++ [46]) ++ (f ++ pp):=by simp
   have l4 : (sg ++ wh).length + 1 = ((sg ++ wh) ++ [46]).length:=by rw [List.length_append (bs:=[46])]; rfl
   rw [e3,nth_at,if_pos rfl,e4,l4,dEnd_run hf h.noDig2]
   obtain ⟨c,f2,rfl⟩ : ∃ c f2,f = c :: f2:=by
    cases f with
    | nil => exact absurd rfl hne
    | cons c f2 => exact ⟨c,f2,rfl⟩
   rw [show ((sg ++ wh) ++ [46]) ++ ((c :: f2) ++ pp) = ((sg ++ wh) ++ [46]) ++ c :: (f2 ++ pp) by rfl,nth_at,if_pos (by simp [allDig] at hf; exact hf.1),e]
   congr 1
   simp
   omega
 have h3 : fPow (sg ++ (wh ++ (fp ++ pp))) (sg.length + wh.length + fp.length) = some (sg ++ (wh ++ (fp ++ pp))).length:=by
  have e0 : sg ++ (wh ++ (fp ++ pp)) = (sg ++ (wh ++ fp)) ++ pp:=by simp
  have l0 : sg.length + wh.length + fp.length = (sg ++ (wh ++ fp)).length:=by simp; omega
  rw [e0,l0]
  unfold fPow
  rcases h.pp with e | ⟨x,s,p,e,hx,hs2,hp,hne⟩
  ·rw [e,List.append_nil,if_neg (by rw [nth_end]; omega)]
  ·obtain ⟨c,p2,rfl⟩ : ∃ c p2,p = c :: p2:=by
    cases p with
    | nil => exact absurd rfl hne
    | cons c p2 => exact ⟨c,p2,rfl⟩
   have hc : isDig c = true:=by simp [allDig] at hp; exact hp.1
   rw [e,nth_at,if_pos hx]
   have e4 : (sg ++ (wh ++ fp)) ++ x :: (s ++ c :: p2) = ((sg ++ (wh ++ fp)) ++ [x]) ++ (s ++ c :: p2):=by simp
   have l4 : (sg ++ (wh ++ fp)).length + 1 = ((sg ++ (wh ++ fp)) ++ [x]).length:=by rw [List.length_append (bs:=[x])]; rfl
   have e5 : ((sg ++ (wh ++ fp)) ++ [x]) ++ (s ++ c :: p2) = (((sg ++ (wh ++ fp)) ++ [x]) ++ s) ++ c :: p2:=by simp
   have hsg2 : fSg ((sg ++ (wh ++ fp)) ++ x :: (s ++ c :: p2)) ((sg ++ (wh ++ fp)).length + 1) = (((sg ++ (wh ++ fp)) ++ [x]) ++ s).length:=by
    unfold fSg
    rw [e4,l4]
    rcases hs2 with rfl | rfl | rfl
    ·rw [List.nil_append,nth_at,if_neg]
     ·simp
     ·intro h2
      rcases h2 with h2 | h2 <;> (rw [h2] at hc; cases hc)
    ·rw [show ([43] ++ c :: p2 : List Nat) = 43 :: (c :: p2) from rfl,nth_at,if_pos (.inl rfl)]
     simp; omega
    ·rw [show ([45] ++ c :: p2 : List Nat) = 45 :: (c :: p2) from rfl,nth_at,if_pos (.inr rfl)]
     simp; omega
   have hlen : (sg ++ (wh ++ fp) ++ x :: (s ++ c :: p2)).length = (((sg ++ (wh ++ fp)) ++ [x]) ++ s).length + (c :: p2).length:=by simp; omega
   rw [hsg2,hlen,e4,e5,nth_at,if_pos hc]
   have:=dEnd_run (A:=((sg ++ (wh ++ fp)) ++ [x]) ++ s) (B:=[]) hp (.inl rfl)
   rw [List.append_nil] at this
   rw [this]
 unfold Go.Proofs.YtkigpbkkhgabeaaGreatDoor.form
 rw [hs,h1]
 show (fFrac _ _).bind _ = _
 rw [h2]
 exact h3
end Go.Proofs.YtkigpbkkhgabeaaGreatDoor
