import Derived.Test.YtkigpbkkhgabeaaGreatDoorYPow
import Derived.Test.YtkigpbkkhgabeaaGreatDoorYNprint
import Derived.Test.YtkigpbkkhgabeaaGreatDoorYNlimb
import Derived.Deep.QuietTactic
import Derived.BigQuiet
import Derived.Outline
import Derived.StillTailTactics
import Derived.OrdersIn
import Derived.Lib.IndexBytes
import Derived.Test.YtkigpbkkhgabeaaGreatDoorYNdig
set_option linter.unusedVariables false
set_option linter.unusedSimpArgs false
namespace Go.Proofs.YtkigpbkkhgabeaaGreatDoor
open Go.RowKit
def lOf : Nat → Nat → List Nat
 | 0,_ => []
 | f + 1,v => if v = 0 then [] else v % 4294967296 :: lOf f (v / 4294967296)
def lim (v : Nat) : List Nat:=lOf v v
theorem lOf_ok : ∀ (f v : Nat),v ≤ f → Can (lOf f v) ∧ val (lOf f v) = v
 | 0,v,h => by
  have e : v = 0:=by omega
  rw [e]
  exact ⟨Can.nil,rfl⟩
 | f + 1,v,h => by
  unfold lOf
  by_cases h0 : v = 0
  ·rw [if_pos h0,h0]; exact ⟨Can.nil,rfl⟩
  ·rw [if_neg h0]
   obtain ⟨hc,hv⟩:=lOf_ok f (v / 4294967296) (by omega)
   refine ⟨⟨L32.cons.2 ⟨by omega,hc.1⟩,.inr ?_⟩,by rw [val_cons,hv]; omega⟩
   rcases hc.2 with e | e
   ·rw [e] at hv ⊢
    rw [val_nil] at hv
    simp [nth]
    omega
   ·have hl : 0 < (lOf f (v / 4294967296)).length:=by
     rcases Nat.eq_zero_or_pos (lOf f (v / 4294967296)).length with h1 | h1
     ·rw [nth_none (by omega)] at e; exact absurd rfl e
     ·exact h1
    rw [List.length_cons,show (lOf f (v / 4294967296)).length + 1 - 1 = ((lOf f (v / 4294967296)).length - 1) + 1 by omega,nth_cons_succ]
    exact e
theorem lim_can (v : Nat) : Can (lim v):=(lOf_ok v v (Nat.le_refl _)).1
theorem lim_val (v : Nat) : val (lim v) = v:=(lOf_ok v v (Nat.le_refl _)).2
theorem eq_lim {zs : List Nat} (h : Can zs) : zs = lim (val zs):=h.inj (lim_can _) (lim_val _).symm
theorem can_of_chk {xs : List Nat} (hl : L32 xs) (h : chk xs = 0) : Can xs ∧ xs.length ≤ 256:=by
 unfold chk at h
 by_cases h1 : 256 < xs.length
 ·rw [if_pos h1] at h; omega
 ·rw [if_neg h1] at h
  refine ⟨⟨hl,?_⟩,by omega⟩
  by_cases h2 : 0 < xs.length ∧ nth xs (xs.length - 1) = 0
  ·rw [if_pos h2] at h; omega
  ·by_cases h3 : xs = []
   ·exact .inl h3
   ·exact .inr fun e => h2 ⟨List.length_pos_iff.2 h3,e⟩
theorem long_iff {zs : List Nat} (h : Can zs) : 256 < zs.length ↔ bp 256 ≤ val zs:=by
 constructor
 ·intro hl
  have:=h.ge (by intro e; rw [e] at hl; simp at hl)
  have:=bp_mono (show 256 ≤ zs.length - 1 by omega)
  omega
 ·intro hv
  rcases Nat.lt_or_ge 256 zs.length with h1 | h1
  ·exact h1
  ·have:=val_lt h.1
   have:=bp_mono h1
   omega
section
variable {S S' : Nat → Prop} {n m c d : Nat} {A B : Option Addr} {xs ys : List Nat}
end
end Go.Proofs.YtkigpbkkhgabeaaGreatDoor
namespace Go.Proofs.YtkigpbkkhgabeaaGreatDoor
open Go.RowKit
theorem lim_len {v : Nat} (h : v < bp 256) : (lim v).length ≤ 256:=by
 rcases Nat.lt_or_ge 256 (lim v).length with h1 | h1
 ·have:=(long_iff (lim_can v)).1 h1
  rw [lim_val] at this
  omega
 ·exact h1
theorem Res.lt {w : World} {base n c : Nat} {A : Option Addr} {zs : List Nat} (h : Res w base A n c zs) : n ≤ 9223372036854775807:=by
 have:=h.n_le; unfold maxLen at this; omega
theorem Res.le {w : World} {base n c : Nat} {A : Option Addr} {zs : List Nat} (h : Res w base A n c zs) : n ≤ maxLen:=by
 have:=h.n_le; omega
theorem below_drewN {B : Nat} {a w : World} (h : Below B a w) (n : Nat) : Below B a (w.drewN n):=⟨h.os,h.tape,h.output,h.size,h.block⟩
end Go.Proofs.YtkigpbkkhgabeaaGreatDoor
namespace Go.Proofs.YtkigpbkkhgabeaaGreatDoor
open Go.RowKit
attribute [local go_sem] Oper.semAt_some
def octs (s : ByteArray) : List Nat:=s.data.toList.map (·.toNat)
theorem octs_length (s : ByteArray) : (octs s).length = s.size:=by unfold octs; rw [List.length_map,Array.length_toList]; rfl
theorem octs_get (s : ByteArray) (k : Nat) (h : k < s.size) : nth (octs s) k = (s[k]).toNat:=by
 rw [nth_get (by rw [octs_length]; exact h)]
 simp [octs]
 rfl
def isDig (x : Nat) : Bool:=decide (48 ≤ x ∧ x ≤ 57)
def allDig (xs : List Nat) : Bool:=xs.all isDig
def pnum (xs : List Nat) : Nat:=xs.foldl (fun a c => a * 10 + (c - 48)) 0
theorem pnum_nil : pnum [] = 0:=rfl
theorem pnum_snoc (xs : List Nat) (c : Nat) : pnum (xs ++ [c]) = pnum xs * 10 + (c - 48):=by simp [pnum]
theorem pnum_from (ys : List Nat) : ∀ a,ys.foldl (fun a c => a * 10 + (c - 48)) a = a * 10 ^ ys.length + pnum ys:=by
 induction ys with
 | nil => intro a; simp [pnum_nil]
 | cons c ys ih =>
  intro a
  unfold pnum
  rw [List.foldl_cons,List.foldl_cons,ih,ih,List.length_cons,Nat.pow_succ,Nat.add_mul,Nat.zero_mul,Nat.zero_add,Nat.mul_assoc,Nat.mul_comm 10,Nat.add_assoc]
theorem pnum_append (xs ys : List Nat) : pnum (xs ++ ys) = pnum xs * 10 ^ ys.length + pnum ys:=by
 unfold pnum
 rw [List.foldl_append,pnum_from]
 rfl
theorem pnum_cons (c : Nat) (ys : List Nat) : pnum (c :: ys) = (c - 48) * 10 ^ ys.length + pnum ys:=by
 have:=pnum_append [c] ys
 rw [List.singleton_append] at this
 rw [this]
 simp [pnum]
theorem pnum_lt {xs : List Nat} (h : allDig xs = true) : pnum xs < 10 ^ xs.length:=by
 induction xs with
 | nil => simp [pnum_nil]
 | cons c xs ih =>
  simp [allDig,isDig] at h
  have h1:=ih (by simp [allDig,isDig]; exact h.2)
  rw [pnum_cons,List.length_cons,Nat.pow_succ]
  have h2 : (c - 48) * 10 ^ xs.length ≤ 9 * 10 ^ xs.length:=Nat.mul_le_mul_right _ (by omega)
  omega
theorem allDig_snoc (xs : List Nat) (c : Nat) : allDig (xs ++ [c]) = (allDig xs && isDig c):=by simp [allDig]
theorem allDig_take {xs : List Nat} (h : allDig xs = true) (k : Nat) : allDig (xs.take k) = true:=by
 unfold allDig at h ⊢
 rw [List.all_eq_true] at h ⊢
 exact fun x hx => h x (List.mem_of_mem_take hx)
theorem allDig_drop {xs : List Nat} (h : allDig xs = true) (k : Nat) : allDig (xs.drop k) = true:=by
 unfold allDig at h ⊢
 rw [List.all_eq_true] at h ⊢
 exact fun x hx => h x (List.mem_of_mem_drop hx)
theorem octs_take (t : ByteArray) (x : Nat) : octs (t.extract 0 x) = (octs t).take x:=by
 unfold octs
 rw [Lib.extract_data,List.drop_zero,Nat.sub_zero,List.map_take]
theorem octs_drop (t : ByteArray) (x : Nat) : octs (t.extract x t.size) = (octs t).drop x:=by
 unfold octs
 rw [Lib.extract_to_end,List.map_drop]
end Go.Proofs.YtkigpbkkhgabeaaGreatDoor
namespace Go.Proofs.YtkigpbkkhgabeaaGreatDoor
open Go.RowKit
theorem octs_txt {xs : List Nat} (h : L8 xs) : octs (txt xs) = xs:=by
 unfold octs txt
 simp only [List.map_map]
 rw [List.map_congr_left (g:=id)]
 ·simp
 ·intro x hx
  have:=h x hx
  simp [Function.comp_def,UInt8.toNat_ofNat']
  omega
theorem dval_pnum (xs : List Nat) : dval ((xs.map (· - 48)).reverse) = pnum xs:=by
 induction xs with
 | nil => rfl
 | cons c xs ih =>
  rw [List.map_cons,List.reverse_cons,dval_snoc,ih,pnum_cons,List.length_reverse,List.length_map,Nat.add_comm,Nat.mul_comm]
  rfl
theorem allDig_chars {ds : List Nat} (h : D10 ds) : allDig ((ds.map (· + 48)).reverse) = true:=by
 unfold allDig
 rw [List.all_eq_true]
 intro x hx
 rw [List.mem_reverse] at hx
 obtain ⟨d,hd,rfl⟩:=List.mem_map.1 hx
 have:=h d hd
 unfold isDig
 exact decide_eq_true (by omega)
theorem isDec_size {v n : Nat} {s : ByteArray} (h : IsDec v s) (hn : 0 < n) (hv : v < 10 ^ n) : s.size ≤ n:=by
 rcases h with ⟨h0,rfl⟩ | ⟨hp,ds,hc,hd,rfl⟩
 ·have : (txt [48]).size = 1:=by decide
  omega
 ·have h8 : L8 ((ds.map (· + 48)).reverse):=fun x hx => by
   rw [List.mem_reverse] at hx
   exact chars_l8 hc.1 x hx
  rw [← octs_length,octs_txt h8,List.length_reverse,List.length_map]
  by_cases hne : ds = []
  ·rw [hne]; simp
  ·have h1:=hc.ge hne
   rcases Nat.lt_or_ge n ds.length with h2 | h2
   ·have h3:=dp_mono (show n ≤ ds.length - 1 by omega)
    unfold dp at h1 h3
    omega
   ·exact h2
theorem bp_lt_ten {n v : Nat} (h : n ≤ 256) (hv : v < bp n) : ∃ m,0 < m ∧ m ≤ 2731 ∧ v < 10 ^ m:=by
 obtain ⟨m,hm⟩ : ∃ m,m = 2731:=⟨_,rfl⟩
 refine ⟨m,by omega,by omega,?_⟩
 have h1 : bp n = 2 ^ (32 * n):=by unfold bp; rw [Nat.pow_mul]
 rw [h1] at hv
 have h2 : 2 ^ (32 * n) ≤ (2 ^ 3) ^ m:=by rw [← Nat.pow_mul]; exact Nat.pow_le_pow_right (by omega) (by omega)
 exact Nat.lt_trans (Nat.lt_of_lt_of_le hv h2) (Nat.pow_lt_pow_left (by decide) (by omega))
theorem Print_c {S : Nat → Prop} {n c : Nat} {A : Option Addr} {xs : List Nat} (w : World) (ha : Rd w S A n xs) (hS : ∀ b,S b → b < w.heap.size) (hn : n ≤ 9223372036854775807) :
  Calls Tryz.prog 71 #[.slice A n c] w fun e w' => ∃ s,e = .returned (.tuple #[.string s,.int .i64 (chk xs : Int)]) ∧ (chk xs = 0 → Can xs ∧ IsDec (val xs) s) ∧ (chk xs ≠ 0 → s = ⟨#[]⟩) ∧ s.size ≤ 2731 ∧ Below w.heap.size w w':=by
 by_cases he : chk xs = 0
 ·obtain ⟨hc,hl⟩:=can_of_chk ha.l32 he
  refine (Print_ok w ha hS hc (by rw [← ha.len]; exact hl)).mono ?_
  rintro e w' ⟨s,rfl,hd,hb⟩
  rw [he]
  obtain ⟨m,hm0,hm,hv⟩:=bp_lt_ten hl (val_lt hc.l32)
  have:=isDec_size hd hm0 hv
  exact ⟨s,rfl,fun _ => ⟨hc,hd⟩,fun h => absurd rfl h,by omega,hb⟩
 ·refine (Print_err w ha hn he).mono ?_
  rintro e w' ⟨rfl,rfl⟩
  exact ⟨_,rfl,fun h => absurd h he,fun _ => rfl,by decide,Below.refl _ _⟩
end Go.Proofs.YtkigpbkkhgabeaaGreatDoor
namespace Go.Proofs.YtkigpbkkhgabeaaGreatDoor
open Go.RowKit
theorem rTrim_c {S : Nat → Prop} {n c : Nat} {A : Option Addr} {ds : List Nat} (w : World) (h : RdI w S A n ds) (hn1 : n ≤ c) (hn2 : n ≤ 9223372036854775807) :
  Calls Tryz.prog 97 #[.slice A n c] w fun e w' => e = .returned (.slice A (tl ds n) c) ∧ w = w':=by
 go_enter Tryz.func97,Tryz.ntmps97
 go_wp2
 go_loop [3] (fun i => ∃ k : Nat,k ≤ n ∧ Hid (tl ds k = tl ds n) ∧ i = .int .i64 k) (fun i => (RowKit.intOf i).toNat)
 case atStart => exact ⟨n,Nat.le_refl _,rfl,rfl⟩
 case round =>
  obtain ⟨k,hk,ht,rfl⟩:=hrel
  by_cases h0 : k = 0
  ·subst h0
   have he : Hid (tl ds n = 0):=ht.out.symm
   clear ht
   go_wp2
   go_ret
   rw [he.out]
   exact ⟨rfl,rfl⟩
  ·obtain ⟨j,rfl⟩ : ∃ j,k = j + 1:=⟨k - 1,by omega⟩
   obtain ⟨b,off,rfl,_,hcell⟩:=h.at_ (k:=j) (by omega)
   by_cases hz : nth ds j = 0
   ·have hs : Hid (tl ds j = tl ds n):=(tl_step hz).symm.trans ht.out
    rw [hz] at hcell
    clear hz ht
    go_wp2
    go_round
    case rel => exact ⟨j,by omega,hs,by go_num⟩
    case measure => simp [RowKit.intOf]
   ·have he : Hid (tl ds n = j + 1):=ht.out.symm.trans (tl_stop hz)
    have hb : (((nth ds j : Nat) : Int) == 0) = false:=by rw [beq_eq_false_iff_ne]; omega
    clear hz ht
    go_wp2
    go_ret
    rw [he.out]
    exact ⟨rfl,rfl⟩
theorem rTrim_own {base n c : Nat} {A : Option Addr} {ds : List Nat} (w : World) (h : ResI w base A n c ds) :
  Calls Tryz.prog 97 #[.slice A n c] w fun e w' => e = .returned (.slice A (tl ds n) c) ∧ ResI w' base A (tl ds n) c (trimmed ds) ∧ w = w':=by
 have hn:=h.n_le
 unfold maxLen at hn
 refine (rTrim_c w h.rd hn.1 (by omega)).mono ?_
 rintro e w' ⟨rfl,rfl⟩
 refine ⟨rfl,?_,rfl⟩
 have:=h.take (tl_le ds n)
 unfold trimmed
 rw [h.len]
 exact this
set_option maxRecDepth 100000 in
theorem Digits_c {S : Nat → Prop} {n c : Nat} {A : Option Addr} {xs : List Nat} (w : World) (h : Rd w S A n xs) (hS : ∀ b,S b → b < w.heap.size) (hn : n ≤ 256) :
  Calls Tryz.prog 94 #[.slice A n c] w fun e w' => ∃ A' n' c' ds,e = .returned (.slice A' n' c') ∧ ResI w' w.heap.size A' n' c' ds ∧ DCan ds ∧ dval ds = val xs ∧ Below w.heap.size w w':=by
 have HL:=Lib.hid h.len
 go_enter Tryz.func94,Tryz.ntmps94
 go_wp2
 go_loopw [3,4] (fun dv iv wr => ∃ (k : Nat) (Ao : Option Addr) (no co : Nat) (ds : List Nat),k ≤ n ∧ iv = .int .i64 ((k : Int) - 1) ∧ dv = .slice Ao no co ∧ ResI wr w.heap.size Ao no co ds ∧ Hid (DCan ds) ∧ Hid (dval ds = val (xs.drop k)) ∧ Below w.heap.size w wr)
  (fun _ iv _ => (RowKit.intOf iv + 1).toNat)
 case atStart => exact ⟨n,none,0,0,[],Nat.le_refl _,rfl,rfl,ResI.nil _ _,DCan.nil,by show _ = _; rw [List.drop_of_length_le (by rw [HL.out]; exact Nat.le_refl _)]; rfl,Below.refl _ _⟩
 case round =>
  obtain ⟨k,Ao,no,co,ds,hk,rfl,rfl,hres,hcan,hval,hbel⟩:=hrel
  by_cases h0 : k = 0
  ·subst h0
   have hv:=hval
   clear hval
   go_wp2
   go_ret
   have:=hv.out
   rw [List.drop_zero] at this
   exact ⟨_,_,_,ds,rfl,hres,hcan.out,this,hbel⟩
  ·obtain ⟨j,rfl⟩ : ∃ j,k = j + 1:=⟨k - 1,by omega⟩
   obtain ⟨b,off,rfl,hSb,hcell0⟩:=h.at_ (k:=j) (by omega)
   have hcell : wr.cell? ⟨b,off + j,none⟩ = some (.int .u32 (nth xs j : Int)):=(hbel.cell (p:=⟨b,off + j,none⟩) (hS _ hSb)).trans hcell0
   have hx:=h.lt j
   have hsz:=hbel.size
   have hlen : no ≤ 2731:=by
    obtain ⟨m,hm0,hm,hv⟩:=bp_lt_ten (n:=n) (v:=dval ds) hn (by
     rw [hval.out]
     have h1:=val_split xs (j + 1) (by rw [HL.out]; omega)
     have h2:=val_lt h.l32
     rw [HL.out] at h2
     have h3 : 1 * val (xs.drop (j + 1)) ≤ bp (j + 1) * val (xs.drop (j + 1)):=Nat.mul_le_mul_right _ (bp_pos _)
     omega)
    have:=hcan.out.len_le hv
    rw [hres.len] at this
    omega
   go_wp2_with fail
   refine (times_c 4294967296 (nth xs j) wr hres hcan.out (by omega) (by omega) (by omega) (by omega)).mono ?_
   rintro e w1 ⟨A',n',c',os,rfl,hres1,hcan1,hval1,hbel1⟩
   have HC1:=Lib.hid hcan1
   have HV1:=Lib.hid hval1
   clear hval1 hcan1
   go_wp2
   refine ⟨⟨j,A',n',c',os,by omega,by go_num,rfl,hres1.more hsz,HC1.out,?_,hbel.trans (hbel1.mono hsz)⟩,by simp [RowKit.intOf]⟩
   show _ = _
   rw [HV1.out,hval.out,val_drop j]
   omega
end Go.Proofs.YtkigpbkkhgabeaaGreatDoor
namespace Go.Proofs.YtkigpbkkhgabeaaGreatDoor
open Go.RowKit
def Upto (M : Nat) (xs : List Nat) : Prop:=∀ x ∈ xs,x ≤ M
theorem Upto.nth {M : Nat} {xs : List Nat} (h : Upto M xs) (k : Nat) : nth xs k ≤ M:=by
 unfold Proofs.YtkigpbkkhgabeaaGreatDoor.nth
 rw [List.getD_eq_getElem?_getD]
 by_cases hk : k < xs.length
 ·rw [List.getElem?_eq_getElem hk]; exact h _ (List.getElem_mem hk)
 ·rw [List.getElem?_eq_none (by omega)]; simp
set_option maxRecDepth 100000 in
set_option maxHeartbeats 1000000 in
theorem carry_c {S : Nat → Prop} {n c M : Nat} {A : Option Addr} {ds : List Nat} (w : World) (h : RdI w S A n ds) (hS : ∀ b,S b → b < w.heap.size) (hM : Upto M ds) (hM2 : M ≤ 2305843009213693951) (hn : n ≤ 100000) :
  Calls Tryz.prog 96 #[.slice A n c] w fun e w' => ∃ A' n' c' os,e = .returned (.slice A' n' c') ∧ ResI w' w.heap.size A' n' c' os ∧ DCan os ∧ dval os = dval ds ∧ Below w.heap.size w w':=by
 have HL:=Lib.hid h.len
 obtain ⟨i0,hi,hz0,hz1,hz2⟩:=info_parts infoI
 go_enter Tryz.func96,Tryz.ntmps96
 go_wp2
 go_loopw [3,4,5] (fun ov mv iv wr => ∃ (k mo : Nat) (Ao : Option Addr) (co : Nat) (os : List Nat),k ≤ n ∧ iv = .int .i64 (k : Int) ∧ mv = .int .i64 (mo : Int) ∧ mo ≤ M ∧ ov = .slice Ao k co ∧
   ResI wr w.heap.size Ao k co os ∧ D10 os ∧ Hid (dval os + dp k * mo = dval (ds.take k)) ∧ Below w.heap.size w wr) (fun _ _ iv _ => n - (RowKit.intOf iv).toNat)
 case atStart => exact ⟨0,0,none,0,[],Nat.zero_le _,rfl,rfl,Nat.zero_le _,rfl,ResI.nil _ _,D10.nil,by show _ = _; rw [List.take_zero,dval_nil,dp_zero],Below.refl _ _⟩
 case round =>
  obtain ⟨k,mo,Ao,co,os,hk,rfl,rfl,hmo,rfl,hres,hos,hval,hbel⟩:=hrel
  by_cases h0 : k = n
  ·subst h0
   have hv:=hval.out
   rw [List.take_of_length_le (by rw [HL.out]; exact Nat.le_refl _)] at hv
   have HV:=Lib.hid hv
   clear hv hval hk
   go_wp2
   go_loopw [3,4] (fun ov mv wr => ∃ (mo : Nat) (Ao : Option Addr) (no co : Nat) (os : List Nat),mv = .int .i64 (mo : Int) ∧ mo ≤ M ∧ ov = .slice Ao no co ∧
     ResI wr w.heap.size Ao no co os ∧ D10 os ∧ Hid (dval os + dp no * mo = dval ds) ∧ Hid (∃ j,no = k + j ∧ mo * 10 ^ j ≤ M) ∧ no ≤ 100020 ∧ Below w.heap.size w wr) (fun _ mv _ => (RowKit.intOf mv).toNat)
   case atStart => exact ⟨mo,Ao,k,co,os,rfl,hmo,rfl,hres,hos,HV,Lib.hid ⟨0,rfl,by omega⟩,by omega,hbel⟩
   case round =>
    clear hres hos HV hbel hmo
    obtain ⟨mo,Ao,no,co,os,rfl,hmo,rfl,hres,hos,hval,hj,hno,hbel⟩:=hrel
    by_cases h0 : mo = 0
    ·have hvl:=hval.out
     rw [h0,Nat.mul_zero,Nat.add_zero] at hvl
     have HVL:=Lib.hid hvl
     have hm1 : mo < 1:=by omega
     clear h0 hvl
     go_wp2_with fail
     refine (rTrim_own wr hres).mono ?_
     rintro e w1 ⟨rfl,hres1,rfl⟩
     go_wp2
     go_ret
     exact ⟨_,_,_,trimmed os,rfl,hres1,trimmed_dcan hos,(trimmed_dval os).trans HVL.out,hbel⟩
    ·have hm1 : 0 < mo:=by omega
     have hnn : no ≤ 100019:=by
      obtain ⟨j,h1,h2⟩:=hj.out
      rcases Nat.lt_or_ge 19 j with h3 | h3
      ·have h4 : (10 : Nat) ^ 20 ≤ 10 ^ j:=Nat.pow_le_pow_right (by omega) (by omega)
       have h5 : 1 * 10 ^ j ≤ mo * 10 ^ j:=Nat.mul_le_mul_right _ hm1
       omega
      ·omega
     have hro : ∀ o,(wr.alloc o).ownsRow w.heap.size 3 1 (.slice Ao no co) no (i64s os):=fun o => hres.own.alloc o
     clear h0
     go_wp2_with (at_builtin; refine wpList_append_own_at _ rfl (.tmp 27) (.tmp 30) _ rfl w.heap.size 3 i0 (.int .i64 0) 1 8 Tryz.underlying101 hi hz0 hz1 hz2 rfl (by decide) (.slice Ao no co) no (i64s os) rfl (hro _) ⟨wr.heap.size, 0, none⟩ 1 1 [.int .i64 ((mo % 10 : Nat) : Int)] rfl rfl (cell_new1 _ _ _ _ rfl) (by simp [Value.oneCell']) (by unfold maxLen; omega) (by omega) (by simp; have := hbel.size; omega) ?_; intro v1 w1 hown1 hg1 _ hat1)
     obtain ⟨g',cap',hv'⟩:=ownsRow_succ hown1
     subst hv'
     refine ⟨⟨mo / 10,_,no + 1,_,os ++ [mo % 10],congrArg (Value.int .i64) (by omega),by omega,rfl,ResI.snoc hres.len hres.l32 (by omega) hown1,hos.snoc (by omega),?_,?_,by omega,hres.below_append hbel hbel.size hg1⟩,by simp [RowKit.intOf]; omega⟩
     ·show _ = _
      rw [dval_snoc,hres.len,dp_succ]
      have e : dp no * (mo % 10) + 10 * dp no * (mo / 10) = dp no * mo:=by
       conv => rhs; rw [← Nat.mod_add_div mo 10]
       rw [Nat.mul_add,← Nat.mul_assoc,Nat.mul_comm 10 (dp no)]
      have e3:=hval.out
      omega
     ·obtain ⟨j,h1,h2⟩:=hj.out
      refine Lib.hid ⟨j + 1,by omega,?_⟩
      rw [Nat.pow_succ,Nat.mul_comm (10 ^ j),← Nat.mul_assoc]
      exact Nat.le_trans (Nat.mul_le_mul_right _ (by omega)) h2
  ·have hlt : k < n:=by omega
   obtain ⟨b,off,rfl,hSb,hcell0⟩:=h.at_ (k:=k) hlt
   have hcell : wr.cell? ⟨b,off + k,none⟩ = some (.int .i64 (nth ds k : Int)):=(hbel.cell (p:=⟨b,off + k,none⟩) (hS _ hSb)).trans hcell0
   have hx:=hM.nth k
   obtain ⟨t,ht⟩ : ∃ t,t = mo + nth ds k:=⟨_,rfl⟩
   have hti : (mo : Int) + (nth ds k : Int) = (t : Int):=by omega
   have htb : t ≤ 2 * M:=by omega
   have hro : ∀ o,(wr.alloc o).ownsRow w.heap.size 3 1 (.slice Ao k co) k (i64s os):=fun o => hres.own.alloc o
   have HT:=Lib.hid ht
   clear ht
   go_wp2_with (at_builtin; refine wpList_append_own_at _ rfl (.tmp 18) (.tmp 21) _ rfl w.heap.size 3 i0 (.int .i64 0) 1 8 Tryz.underlying101 hi hz0 hz1 hz2 rfl (by decide) (.slice Ao k co) k (i64s os) rfl (hro _) ⟨wr.heap.size, 0, none⟩ 1 1 [.int .i64 ((t % 10 : Nat) : Int)] rfl rfl (cell_new1 _ _ _ _ rfl) (by simp [Value.oneCell']) (by unfold maxLen; omega) (by omega) (by simp; have := hbel.size; omega) ?_; intro v1 w1 hown1 hg1 _ hat1)
   obtain ⟨g',cap',hv'⟩:=ownsRow_succ hown1
   subst hv'
   refine ⟨⟨k + 1,t / 10,_,_,os ++ [t % 10],by omega,by go_num,congrArg (Value.int .i64) (by omega),by omega,rfl,ResI.snoc hres.len hres.l32 (by omega) hown1,hos.snoc (by omega),?_,hres.below_append hbel hbel.size hg1⟩,by simp [RowKit.intOf]; omega⟩
   show _ = _
   rw [dval_snoc,hres.len,dval_take_succ,dp_succ]
   have e : dp k * (t % 10) + 10 * dp k * (t / 10) = dp k * t:=by
    conv => rhs; rw [← Nat.mod_add_div t 10]
    rw [Nat.mul_add,← Nat.mul_assoc,Nat.mul_comm 10 (dp k)]
   have e2 : dp k * t = dp k * mo + dp k * nth ds k:=by rw [HT.out,Nat.mul_add]
   have e3:=hval.out
   omega
end Go.Proofs.YtkigpbkkhgabeaaGreatDoor
namespace Go.Proofs.YtkigpbkkhgabeaaGreatDoor
open Go.RowKit
theorem plus_step {os xs ys : List Nat} {k : Nat} (hl : os.length = k) (h : dval os = dval (xs.take k) + dval (ys.take k)) : dval (os ++ [nth xs k + nth ys k]) = dval (xs.take (k + 1)) + dval (ys.take (k + 1)):=by
 rw [dval_snoc,hl,h,dval_take_succ,dval_take_succ,Nat.mul_add]
 omega
theorem upto_snoc {M : Nat} {xs : List Nat} {x : Nat} (h : Upto M xs) (hx : x ≤ M) : Upto M (xs ++ [x]):=fun y hy => by
 rcases List.mem_append.1 hy with h1 | h1
 ·exact h y h1
 ·rw [List.mem_singleton.1 h1]; exact hx
set_option maxRecDepth 100000 in
set_option maxHeartbeats 1000000 in
theorem Plus_c {S S' : Nat → Prop} {n m c d : Nat} {A B : Option Addr} {xs ys : List Nat} (w : World) (ha : RdI w S A n xs) (hb : RdI w S' B m ys) (hS : ∀ b,S b → b < w.heap.size) (hS' : ∀ b,S' b → b < w.heap.size) (hx : D10 xs) (hy : D10 ys) (hn : n ≤ 100000) (hm : m ≤ 100000) :
  Calls Tryz.prog 61 #[.slice A n c,.slice B m d] w fun e w' => ∃ A' n' c' os,e = .returned (.slice A' n' c') ∧ ResI w' w.heap.size A' n' c' os ∧ DCan os ∧ dval os = dval xs + dval ys ∧ Below w.heap.size w w':=by
 have HL:=Lib.hid ha.len
 have HM:=Lib.hid hb.len
 have HX:=Lib.hid hx
 have HY:=Lib.hid hy
 clear hx hy
 obtain ⟨i0,hi,hz0,hz1,hz2⟩:=info_parts infoI
 go_enter Tryz.func61,Tryz.ntmps61
 go_wp2
 go_loopw [5,6] (fun ov iv wr => ∃ (k : Nat) (Ao : Option Addr) (co : Nat) (os : List Nat),k ≤ 100000 ∧ iv = .int .i64 (k : Int) ∧ ov = .slice Ao k co ∧
   ResI wr w.heap.size Ao k co os ∧ Upto 18 os ∧ Hid (dval os = dval (xs.take k) + dval (ys.take k)) ∧ Below w.heap.size w wr) (fun _ iv _ => (n + m) - (RowKit.intOf iv).toNat)
 case atStart => exact ⟨0,none,0,[],Nat.zero_le _,rfl,rfl,ResI.nil _ _,(fun x hx => absurd hx (by simp)),rfl,Below.refl _ _⟩
 case round =>
  obtain ⟨k,Ao,co,os,hk,rfl,rfl,hres,hos,hval,hbel⟩:=hrel
  have hro : ∀ o,(wr.alloc o).ownsRow w.heap.size 3 1 (.slice Ao k co) k (i64s os):=fun o => hres.own.alloc o
  have hx9:=dth_lt HX.out k
  have hy9:=dth_lt HY.out k
  by_cases h1 : k < n
  ·obtain ⟨b,off,rfl,hSb,hcell0⟩:=ha.at_ (k:=k) h1
   have hcell : wr.cell? ⟨b,off + k,none⟩ = some (.int .i64 (nth xs k : Int)):=(hbel.cell (p:=⟨b,off + k,none⟩) (hS _ hSb)).trans hcell0
   by_cases h2 : k < m
   ·obtain ⟨b2,off2,rfl,hSb2,hcell20⟩:=hb.at_ (k:=k) h2
    have hcell2 : wr.cell? ⟨b2,off2 + k,none⟩ = some (.int .i64 (nth ys k : Int)):=(hbel.cell (p:=⟨b2,off2 + k,none⟩) (hS' _ hSb2)).trans hcell20
    obtain ⟨t,ht⟩ : ∃ t,t = nth xs k + nth ys k:=⟨_,rfl⟩
    have hti : (nth xs k : Int) + (nth ys k : Int) = (t : Int):=by omega
    have htb : t ≤ 18:=by omega
    have HT:=Lib.hid ht
    clear ht
    go_wp2_with (at_builtin; refine wpList_append_own_at _ rfl (.tmp 40) (.tmp 42) _ rfl w.heap.size 3 i0 (.int .i64 0) 1 8 Tryz.underlying101 hi hz0 hz1 hz2 rfl (by decide) (.slice Ao k co) k (i64s os) rfl (hro _) ⟨wr.heap.size, 0, none⟩ 1 1 [.int .i64 ((t : Nat) : Int)] rfl rfl (cell_new1 _ _ _ _ rfl) (by simp [Value.oneCell']) (by unfold maxLen; omega) (by omega) (by simp; have := hbel.size; omega) ?_; intro v1 w1 hown1 hg1 _ hat1)
    obtain ⟨g',cap',hv'⟩:=ownsRow_succ hown1
    subst hv'
    refine ⟨⟨k + 1,_,_,os ++ [t],by omega,by go_num,rfl,ResI.snoc hres.len hres.l32 (by omega) hown1,upto_snoc hos htb,?_,hres.below_append hbel hbel.size hg1⟩,by simp [RowKit.intOf]; omega⟩
    rw [HT.out]
    exact Lib.hid (plus_step hres.len hval.out)
   ·have hy0 : Hid (nth ys k = 0):=nth_none (by rw [HM.out]; omega)
    go_wp2_with (at_builtin; refine wpList_append_own_at _ rfl (.tmp 40) (.tmp 42) _ rfl w.heap.size 3 i0 (.int .i64 0) 1 8 Tryz.underlying101 hi hz0 hz1 hz2 rfl (by decide) (.slice Ao k co) k (i64s os) rfl (hro _) ⟨wr.heap.size, 0, none⟩ 1 1 [.int .i64 ((nth xs k : Nat) : Int)] rfl rfl (cell_new1 _ _ _ _ rfl) (by simp [Value.oneCell']) (by unfold maxLen; omega) (by omega) (by simp; have := hbel.size; omega) ?_; intro v1 w1 hown1 hg1 _ hat1)
    obtain ⟨g',cap',hv'⟩:=ownsRow_succ hown1
    subst hv'
    refine ⟨⟨k + 1,_,_,os ++ [nth xs k],by omega,by go_num,rfl,ResI.snoc hres.len hres.l32 (by omega) hown1,upto_snoc hos (by omega),?_,hres.below_append hbel hbel.size hg1⟩,by simp [RowKit.intOf]; omega⟩
    have:=plus_step hres.len hval.out
    rw [hy0.out,Nat.add_zero] at this
    exact Lib.hid this
  ·by_cases h2 : k < m
   ·obtain ⟨b2,off2,rfl,hSb2,hcell20⟩:=hb.at_ (k:=k) h2
    have hcell2 : wr.cell? ⟨b2,off2 + k,none⟩ = some (.int .i64 (nth ys k : Int)):=(hbel.cell (p:=⟨b2,off2 + k,none⟩) (hS' _ hSb2)).trans hcell20
    have hx0 : Hid (nth xs k = 0):=nth_none (by rw [HL.out]; omega)
    go_wp2_with (at_builtin; refine wpList_append_own_at _ rfl (.tmp 40) (.tmp 42) _ rfl w.heap.size 3 i0 (.int .i64 0) 1 8 Tryz.underlying101 hi hz0 hz1 hz2 rfl (by decide) (.slice Ao k co) k (i64s os) rfl (hro _) ⟨wr.heap.size, 0, none⟩ 1 1 [.int .i64 ((nth ys k : Nat) : Int)] rfl rfl (cell_new1 _ _ _ _ rfl) (by simp [Value.oneCell']) (by unfold maxLen; omega) (by omega) (by simp; have := hbel.size; omega) ?_; intro v1 w1 hown1 hg1 _ hat1)
    obtain ⟨g',cap',hv'⟩:=ownsRow_succ hown1
    subst hv'
    refine ⟨⟨k + 1,_,_,os ++ [nth ys k],by omega,by go_num,rfl,ResI.snoc hres.len hres.l32 (by omega) hown1,upto_snoc hos (by omega),?_,hres.below_append hbel hbel.size hg1⟩,by simp [RowKit.intOf]; omega⟩
    have:=plus_step hres.len hval.out
    rw [hx0.out,Nat.zero_add] at this
    exact Lib.hid this
   ·have HV : Hid (dval os = dval xs + dval ys):=by
     have:=hval.out
     rwa [List.take_of_length_le (by rw [HL.out]; omega),List.take_of_length_le (by rw [HM.out]; omega)] at this
    clear hval
    go_wp2_with fail
    refine (carry_c wr hres.rd (fun b h => h.2) hos (by omega) (by omega)).mono ?_
    rintro e w1 ⟨A',n',c',os',rfl,hres1,hcan1,hval1,hbel1⟩
    go_wp2
    go_ret
    exact ⟨_,_,_,os',rfl,hres1.more hbel.size,hcan1,hval1.trans HV.out,hbel.trans (hbel1.mono hbel.size)⟩
end Go.Proofs.YtkigpbkkhgabeaaGreatDoor
