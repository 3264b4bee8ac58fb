import Derived.Test.YtkigpbkkhgabeaaGreatDoorYWyl
set_option linter.unusedVariables false
set_option linter.unusedSimpArgs false
namespace Go.Proofs.YtkigpbkkhgabeaaGreatDoor
open Go.RowKit Go.Lib
theorem lnum9_c (z : Int) (w : World) : Calls Tryz.prog 12 #[.int .i64 z] w fun e w' => e = .returned (.int .i64 z) ∧ w = w':=by
 go_enter Tryz.func12,Tryz.ntmps12
 go_wp2_with fail
 go_ret
 exact ⟨rfl,rfl⟩
def exL : VT:=.mk 5 false [] 0 ⟨#[]⟩ [numT 1] []
def exO : VT:=.mk 6 false [] 0 ⟨#[]⟩ [exL] [⟨#[97]⟩]
theorem err_exO : errV exO = 0:=by kernel_rfl
theorem out_exO : prV quoteC numP 1 0 exO = [123,10,32,34,97,34,58,32,91,10,32,32,49,10,32,93,10,125]:=by kernel_rfl
set_option maxRecDepth 100000 in
set_option maxHeartbeats 4000000 in
theorem alive9_c (w : World) (hG : Gl w.heap.size w) : Calls Tryz.prog 8 #[] w fun e w' => e = .returned (.bool true) ∧ Below w.heap.size w w':=by
 obtain ⟨kb,hkb⟩ : ∃ b,w.heap.size = b:=⟨_,rfl⟩
 obtain ⟨w0,hw0⟩ : ∃ w0,w.alloc (.cells #[.string ⟨#[97]⟩] 9) = w0:=⟨_,rfl⟩
 have hb0 : Below kb w w0:=by rw [← hw0,← hkb]; exact (Below.refl _ w).alloc (Nat.le_refl _) _
 have hm0 : w0.heap[kb]? = some (.cells #[.string ⟨#[97]⟩] 9):=by rw [← hw0,← hkb]; exact World.alloc_heap_new _ _
 have hs0 : w0.heap.size = kb + 1:=by rw [← hw0,World.size_alloc,hkb]
 rw [hkb] at hG
 have HW0:=Lib.hid hw0
 have HC1:=num_c 1 (by omega) w0
 rw [hs0] at HC1
 have HG:=Lib.hid hG
 have HB0:=Lib.hid hb0
 have HM0:=Lib.hid hm0
 clear hG hb0 hm0 hw0
 go_enter Tryz.func8,Tryz.ntmps8
 go_wp2_with fail
 rw [HW0.out]
 try rw [hkb]
 refine HC1.mono ?_
 rintro e' w1 ⟨cs1,rfl,hv1,hb1⟩
 clear HC1
 obtain ⟨k1,n1,A1,m1,c1,e1,t1,LA1,lm1,lc1,KA1,km1,kc1,rfl,-,-⟩:=hv1.seven
 obtain ⟨rb,hrb⟩ : ∃ b,w1.heap.size = b:=⟨_,rfl⟩
 obtain ⟨w4,hw4⟩ : ∃ w4,((w1.alloc (.cells #[.int .i64 k1,.bool n1,.slice A1 m1 c1,.int .i64 e1,.string t1,.slice LA1 lm1 lc1,.slice KA1 km1 kc1] 28)).alloc (.cells #[.int .i64 5,.bool false,.slice none 0 0,.int .i64 0,.string ⟨#[]⟩,.slice (some ⟨rb,0,none⟩) 1 1,.slice none 0 0] 28)).alloc (.cells #[.int .i64 6,.bool false,.slice none 0 0,.int .i64 0,.string ⟨#[]⟩,.slice (some ⟨rb + 1,0,none⟩) 1 1,.slice (some ⟨kb,0,none⟩) 1 1] 28) = w4:=⟨_,rfl⟩
 have hkr : kb + 1 ≤ rb:=by have:=hb1.size; omega
 have hb4 : Below rb w1 w4:=by rw [← hw4,← hrb]; exact (((Below.refl _ w1).alloc (Nat.le_refl _) _).alloc (by rw [World.size_alloc]; omega) _).alloc (by rw [World.size_alloc,World.size_alloc]; omega) _
 have hr4 : w4.heap[rb]? = some (.cells #[.int .i64 k1,.bool n1,.slice A1 m1 c1,.int .i64 e1,.string t1,.slice LA1 lm1 lc1,.slice KA1 km1 kc1] 28):=by
  rw [← hw4,Below.heap_alloc _ _ _ (by simp; omega),Below.heap_alloc _ _ _ (by simp; omega),← hrb]; exact World.alloc_heap_new _ _
 have hl4 : w4.heap[rb + 1]? = some (.cells #[.int .i64 5,.bool false,.slice none 0 0,.int .i64 0,.string ⟨#[]⟩,.slice (some ⟨rb,0,none⟩) 1 1,.slice none 0 0] 28):=by
  rw [← hw4,Below.heap_alloc _ _ _ (by simp; omega)]
  have:=World.alloc_heap_new (w1.alloc (.cells #[.int .i64 k1,.bool n1,.slice A1 m1 c1,.int .i64 e1,.string t1,.slice LA1 lm1 lc1,.slice KA1 km1 kc1] 28)) (.cells #[.int .i64 5,.bool false,.slice none 0 0,.int .i64 0,.string ⟨#[]⟩,.slice (some ⟨rb,0,none⟩) 1 1,.slice none 0 0] 28)
  rwa [World.size_alloc,hrb] at this
 have ho4 : w4.heap[rb + 1 + 1]? = some (.cells #[.int .i64 6,.bool false,.slice none 0 0,.int .i64 0,.string ⟨#[]⟩,.slice (some ⟨rb + 1,0,none⟩) 1 1,.slice (some ⟨kb,0,none⟩) 1 1] 28):=by
  rw [← hw4]
  have:=World.alloc_heap_new ((w1.alloc (.cells #[.int .i64 k1,.bool n1,.slice A1 m1 c1,.int .i64 e1,.string t1,.slice LA1 lm1 lc1,.slice KA1 km1 kc1] 28)).alloc (.cells #[.int .i64 5,.bool false,.slice none 0 0,.int .i64 0,.string ⟨#[]⟩,.slice (some ⟨rb,0,none⟩) 1 1,.slice none 0 0] 28)) (.cells #[.int .i64 6,.bool false,.slice none 0 0,.int .i64 0,.string ⟨#[]⟩,.slice (some ⟨rb + 1,0,none⟩) 1 1,.slice (some ⟨kb,0,none⟩) 1 1] 28)
  rwa [World.size_alloc,World.size_alloc,hrb] at this
 have hs4 : w4.heap.size = rb + 3:=by rw [← hw4]; simp; omega
 have hk4 : w4.heap[kb]? = some (.cells #[.string ⟨#[97]⟩] 9):=(hb4.block kb (by omega)).trans ((hb1.block kb (by omega)).trans HM0.out)
 have hbw : Below kb w w4:=HB0.out.trans ((hb1.mono (by omega)).trans (hb4.mono (by omega)))
 have hv1' : VIn w4 (fun b => b < w4.heap.size) (numT 1) [.int .i64 k1,.bool n1,.slice A1 m1 c1,.int .i64 e1,.string t1,.slice LA1 lm1 lc1,.slice KA1 km1 kc1]:=(hv1.keep fun p hp => hb4.cell (by have:=hp.2; omega)).more fun b hb => by have:=hb.2; omega
 have hvL : VIn w4 (fun b => b < w4.heap.size) exL [.int .i64 5,.bool false,.slice none 0 0,.int .i64 0,.string ⟨#[]⟩,.slice (some ⟨rb,0,none⟩) 1 1,.slice none 0 0] :=
  .mk (cs:=fun _ => [.int .i64 k1,.bool n1,.slice A1 m1 c1,.int .i64 e1,.string t1,.slice LA1 lm1 lc1,.slice KA1 km1 kc1]) (Rd.nil _ _ _) (by omega) (by decide) ⟨rfl,fun h0 => absurd h0 (by omega)⟩ (by omega) rfl (by omega) (Nat.le_refl _)
   (fun _ => ⟨rb,0,rfl,by show rb < _; omega,fun i hi => by
    obtain rfl : i = 0:=by omega
    exact ⟨rfl,fun t ht => by
     match t,ht with
     | 0,_ => exact cell_at hr4 rfl
     | 1,_ => exact cell_at hr4 rfl
     | 2,_ => exact cell_at hr4 rfl
     | 3,_ => exact cell_at hr4 rfl
     | 4,_ => exact cell_at hr4 rfl
     | 5,_ => exact cell_at hr4 rfl
     | 6,_ => exact cell_at hr4 rfl⟩⟩)
   (fun i x hi => by
    match i,hi with
    | 0,hi => injection hi with hi; subst hi; exact hv1')
 have hvO : VIn w4 (fun b => b < w4.heap.size) exO [.int .i64 6,.bool false,.slice none 0 0,.int .i64 0,.string ⟨#[]⟩,.slice (some ⟨rb + 1,0,none⟩) 1 1,.slice (some ⟨kb,0,none⟩) 1 1] :=
  .mk (cs:=fun _ => [.int .i64 5,.bool false,.slice none 0 0,.int .i64 0,.string ⟨#[]⟩,.slice (some ⟨rb,0,none⟩) 1 1,.slice none 0 0]) (Rd.nil _ _ _) (by omega) (by decide) ⟨rfl,fun _ => ⟨kb,0,rfl,by show kb < _; omega,fun i k hi => by
    match i,hi with
    | 0,hi => injection hi with hi; subst hi; exact ⟨cell_at hk4 rfl,by decide⟩⟩⟩ (by omega) rfl (by omega) (Nat.le_refl _)
   (fun _ => ⟨rb + 1,0,rfl,by show rb + 1 < _; omega,fun i hi => by
    obtain rfl : i = 0:=by omega
    exact ⟨rfl,fun t ht => by
     match t,ht with
     | 0,_ => exact cell_at hl4 rfl
     | 1,_ => exact cell_at hl4 rfl
     | 2,_ => exact cell_at hl4 rfl
     | 3,_ => exact cell_at hl4 rfl
     | 4,_ => exact cell_at hl4 rfl
     | 5,_ => exact cell_at hl4 rfl
     | 6,_ => exact cell_at hl4 rfl⟩⟩)
   (fun i x hi => by
    match i,hi with
    | 0,hi => injection hi with hi; subst hi; exact hvL)
 have hc:=indent_c 1 w4 (((HG.out.low hbw)).up (by omega)) hvO (fun b h => h)
 have HC:=Lib.hid hc
 have HBW:=Lib.hid hbw
 have HW4:=Lib.hid hw4
 clear hc hvO hvL hv1' hv1 hk4 ho4 hl4 hr4 hb4 hbw hw4 hb1
 go_wp2_with fail
 try rw [hrb]
 rw [HW4.out]
 refine HC.out.mono ?_
 rintro e9 w5 ⟨he,hb5⟩
 have hBw : Below kb w w5:=HBW.out.trans (hb5.mono (by omega))
 have HBW5:=Lib.hid hBw
 clear hb5 hBw
 unfold IndE at he
 rw [err_exO,if_neg (by decide),if_neg (by decide),show ((1 : Int).toNat) = 1 from rfl,out_exO] at he
 rcases he with ⟨-,rfl⟩ | ⟨hl,-⟩
 case inr => exact absurd hl (by decide)
 go_wp2_with (first | (go_at_call 12; refine (lnum9_c _ _).mono ?_; rintro e' w' ⟨rfl,rfl⟩))
 go_ret
 rw [hkb]
 exact ⟨rfl,HBW5.out⟩
end Go.Proofs.YtkigpbkkhgabeaaGreatDoor
namespace Go.Proofs.YtkigpbkkhgabeaaGreatDoor
open Go.RowKit Go.Lib
structure REnv (B : Nat) (L : List UInt8) (A : Option Addr) (c rb : Nat) (w : World) (p : Nat) : Prop where
 box : w.heap[rb]? = some (.cells #[.slice A L.length c,.int .i64 (p : Int),.int .i64 0] 89)
 oct : ∀ k x,L[k]? = some x → ∃ g off,A = some ⟨g,off,none⟩ ∧ g < B ∧ w.cell? ⟨g,off + k,none⟩ = some (.int .u8 (x.toNat : Int))
 base : B ≤ rb
 fits : L.length ≤ 65536
 here : p ≤ L.length
 cap : L.length ≤ c
theorem REnv.lt {B : Nat} {L : List UInt8} {A : Option Addr} {c rb : Nat} {w : World} {p : Nat} (h : REnv B L A c rb w p) : rb < w.heap.size:=(Array.getElem?_eq_some_iff.1 h.box).1
theorem REnv.cells {B : Nat} {L : List UInt8} {A : Option Addr} {c rb : Nat} {w : World} {p : Nat} (h : REnv B L A c rb w p) : w.cell? ⟨rb,0,none⟩ = some (.slice A L.length c) ∧ w.cell? ⟨rb,1,none⟩ = some (.int .i64 (p : Int)) ∧ w.cell? ⟨rb,2,none⟩ = some (.int .i64 0) :=
 ⟨cell_at3 h.box rfl,cell_at3 h.box rfl,cell_at3 h.box rfl⟩
theorem REnv.frozen {B : Nat} {L : List UInt8} {A : Option Addr} {c rb : Nat} {w : World} {p : Nat} (h : REnv B L A c rb w p) (i : Nat) : w.frozen? ⟨rb,i,none⟩ = false:=by simp [World.frozen?,h.box]
theorem REnv.stay {B : Nat} {L : List UInt8} {A : Option Addr} {c rb : Nat} {w w' : World} {p : Nat} {C : Nat → Prop} (h : REnv B L A c rb w p) (hb : But C w w') (hC : ∀ k,C k → B ≤ k ∧ k ≠ rb) : REnv B L A c rb w' p :=
 ⟨(hb.block rb h.lt (fun hc => (hC _ hc).2 rfl)).trans h.box,fun k x hk => by
  obtain ⟨g,off,hA,hg,hc⟩:=h.oct k x hk
  exact ⟨g,off,hA,hg,hb.cell_some hc (fun hc => by have:=(hC _ hc).1; simp only at this; omega)⟩,h.base,h.fits,h.here,h.cap⟩
theorem REnv.to {B : Nat} {L : List UInt8} {A : Option Addr} {c rb : Nat} {w : World} {p : Nat} (h : REnv B L A c rb w p) {q : Nat} (hq : q ≤ L.length) : REnv B L A c rb (w.setCell ⟨rb,1,none⟩ (.int .i64 (q : Int))) q :=
 ⟨by simpa using set_page (w:=w) (pb:=rb) (i:=1) (.int .i64 (q : Int)) h.box,fun k x hk => by
  obtain ⟨g,off,hA,hg,hc⟩:=h.oct k x hk
  refine ⟨g,off,hA,hg,?_⟩
  have:=h.base
  rw [World.cell?_of_block (Below.heap_setCell _ _ _ _ (by show g ≠ rb; omega))]
  exact hc,h.base,h.fits,hq,h.cap⟩
def nxt (L : List UInt8) (p : Nat) : UInt8:=L[p]?.getD 0
set_option maxRecDepth 100000 in
set_option maxHeartbeats 1000000 in
theorem rpeek_c {B : Nat} {L : List UInt8} {A : Option Addr} {c rb : Nat} {w : World} {p : Nat} (h : REnv B L A c rb w p) :
  Calls Tryz.prog 79 #[.pointer (some ⟨rb,0,none⟩)] w fun e w' => e = .returned (.int .u8 ((nxt L p).toNat : Int)) ∧ But (fun _ => False) w w':=by
 have mixed : Tryz.prog.follows .mixedOrders = true:=by kernel_rfl
 obtain ⟨c0,c1,-⟩:=h.cells
 rcases Nat.lt_or_ge p L.length with hp | hp
 ·obtain ⟨x,hx⟩ : ∃ x,L[p]? = some x:=⟨_,List.getElem?_eq_getElem hp⟩
  obtain ⟨g,off,rfl,hg,hc⟩:=h.oct p x hx
  have hn : nxt L p = x:=by unfold nxt; rw [hx]; rfl
  rw [hn]
  have hfit:=h.fits
  have hcap:=h.cap
  clear h hx hn
  go_enter Tryz.func79,Tryz.ntmps79
  go_upto_region 1 with fail
  go_region_o
  all_goals go_upto_region 2 with fail
  all_goals go_region_o
  all_goals go_wp2
  all_goals go_ret
  all_goals exact ⟨rfl,((But.refl _ w).drew).drew⟩
 ·have hn : nxt L p = 0:=by unfold nxt; rw [List.getElem?_eq_none hp]; rfl
  have hpe : p = L.length:=Nat.le_antisymm h.here hp
  rw [hn]
  have hfit:=h.fits
  subst hpe
  clear h hn hp
  go_enter Tryz.func79,Tryz.ntmps79
  go_upto_region 1 with fail
  go_region_o
  all_goals go_wp2
  all_goals go_ret
  all_goals exact ⟨rfl,(But.refl _ w).drew⟩
end Go.Proofs.YtkigpbkkhgabeaaGreatDoor
namespace Go.Proofs.YtkigpbkkhgabeaaGreatDoor
open Go.RowKit Go.Lib
theorem rHex_step {k v p : Nat} {M : List UInt8} {n q : Nat} (h : rHex (k + 1) v M p = .ok n q) : ∃ c d,M[p]? = some c ∧ hexOf c = some d ∧ rHex k (v * 16 + d) M (p + 1) = .ok n q:=by
 unfold rHex rAt rPeek at h
 cases hc : M[p]? with
 | none => rw [hc] at h; cases h
 | some c =>
  rw [hc] at h
  simp only [RR.bind] at h
  cases hd : hexOf c with
  | none => rw [hd] at h; cases h
  | some d => rw [hd] at h; exact ⟨c,d,rfl,hd,h⟩
theorem hexOf_cases {c : UInt8} {d : Nat} (h : hexOf c = some d) : (48 ≤ c.toNat ∧ c.toNat ≤ 57 ∧ d + 48 = c.toNat) ∨ (97 ≤ c.toNat ∧ c.toNat ≤ 102 ∧ d + 87 = c.toNat) ∨ (65 ≤ c.toNat ∧ c.toNat ≤ 70 ∧ d + 55 = c.toNat):=by
 unfold hexOf at h
 split at h
 ·rename_i h1
  simp only [Bool.and_eq_true,decide_eq_true_eq] at h1
  have g1 : 48 ≤ c.toNat:=h1.1
  have g2 : c.toNat ≤ 57:=h1.2
  injection h with h; omega
 ·split at h
  ·rename_i h1
   simp only [Bool.and_eq_true,decide_eq_true_eq] at h1
   have g1 : 97 ≤ c.toNat:=h1.1
   have g2 : c.toNat ≤ 102:=h1.2
   injection h with h; omega
  ·split at h
   ·rename_i h1
    simp only [Bool.and_eq_true,decide_eq_true_eq] at h1
    have g1 : 65 ≤ c.toNat:=h1.1
    have g2 : c.toNat ≤ 70:=h1.2
    injection h with h; omega
   ·cases h
set_option maxRecDepth 100000 in
set_option maxHeartbeats 2000000 in
theorem rhex_c {M : List UInt8} {A : Option Addr} {cp i n : Nat} (w : World) (hc : ∀ j x,M[j]? = some x → ∃ g off,A = some ⟨g,off,none⟩ ∧ w.cell? ⟨g,off + j,none⟩ = some (.int .u8 (x.toNat : Int))) (hl : M.length ≤ 65536) (hi : i ≤ 65536) (h : rHex 4 0 M i = .ok n (i + 4)) :
  Calls Tryz.prog 151 #[.slice A M.length cp,.int .i64 (i : Int)] w fun e w' => e = .returned (.tuple #[.int .i64 (n : Int),.int .i64 4]) ∧ w = w':=by
 have HC:=Lib.hid hc
 clear hc
 go_enter Tryz.func151,Tryz.ntmps151
 have h0 : Hid (rHex (4 - 0) 0 M (i + 0) = .ok n (i + 4)):=h
 clear h
 go_wp2_with fail
 go_loop [6,7] (fun nv kv => ∃ k v : Nat,k ≤ 4 ∧ v < 16 ^ k ∧ nv = .int .i64 (v : Int) ∧ kv = .int .i64 (k : Int) ∧ Hid (rHex (4 - k) v M (i + k) = .ok n (i + 4))) (fun _ kv => 4 - (RowKit.intOf kv).toNat)
 case atStart => exact ⟨0,0,by omega,by decide,rfl,rfl,h0⟩
 case round =>
  clear h0
  obtain ⟨k,v,hk,hv,rfl,rfl,hr⟩:=hrel
  by_cases hk4 : k = 4
  ·subst hk4
   have hn : v = n:=by
    have h9:=hr.out
    unfold rHex rPure at h9
    injection h9
   subst hn
   clear hr
   go_wp2
   go_ret2
   exact ⟨rfl,rfl⟩
  ·obtain ⟨j,hj⟩ : ∃ j,4 - k = j + 1:=⟨3 - k,by omega⟩
   have hr2:=hr.out
   rw [hj] at hr2
   obtain ⟨c,d,h1,h2,h3⟩:=rHex_step hr2
   have hlt : i + k < M.length:=(List.getElem?_eq_some_iff.1 h1).1
   obtain ⟨g,off,rfl,hcell⟩:=HC.out _ _ h1
   have hcs:=hexOf_cases h2
   have hv9 : v < 4096:=by
    have : 16 ^ k ≤ 16 ^ 3:=Nat.pow_le_pow_right (by omega) (by omega)
    omega
   have hnx : Hid (rHex (4 - (k + 1)) (v * 16 + d) M (i + (k + 1)) = .ok n (i + 4)):=by
    show _ = _
    rw [show 4 - (k + 1) = j by omega]
    exact h3
   have hd16 : d < 16:=by rcases hcs with h | h | h <;> omega
   have hp : v * 16 + d < 16 ^ (k + 1):=by rw [Nat.pow_succ]; omega
   have hcx : w.cell? ⟨g,off + (i + k),none⟩ = some (.int .u8 (c.toNat : Int)):=hcell
   have hki : k < 4:=by omega
   clear hr hr2 h1 h2 h3 hcell hj
   rcases hcs with ⟨a1,a2,a3⟩ | ⟨a1,a2,a3⟩ | ⟨a1,a2,a3⟩
   all_goals
    go_wp2
    exact ⟨⟨k + 1,v * 16 + d,by omega,hp,by congr 1; omega,by go_num,hnx⟩,by simp [RowKit.intOf]; omega⟩
end Go.Proofs.YtkigpbkkhgabeaaGreatDoor
namespace Go.Proofs.YtkigpbkkhgabeaaGreatDoor
open Go.RowKit Go.Lib
set_option maxRecDepth 100000 in
set_option maxHeartbeats 2000000 in
theorem runi_c {B : Nat} {L : List UInt8} {A : Option Addr} {c rb : Nat} {w : World} {p n : Nat} (E : REnv B L A c rb w p) (h : rHex 4 0 L (p + 2) = .ok n (p + 6)) (hn : n < 55296 ∨ 57343 < n) (hn2 : n < 65536) (hq : p + 6 ≤ L.length) :
  Calls Tryz.prog 138 #[.pointer (some ⟨rb,0,none⟩)] w fun e w' => ∃ g m,e = .returned (.slice (some ⟨g,0,none⟩) m m) ∧ w.heap.size ≤ g ∧ RowV w' w.heap.size 5 (some ⟨g,0,none⟩) m m (bs8 (encodeRune (n : Int))) ∧ REnv B L A c rb w' (p + 6) ∧ But (fun k => k = rb) w w':=by
 obtain ⟨c0,c1,c2⟩:=E.cells
 have f1:=E.frozen 1
 have hfit:=E.fits
 have hcap:=E.cap
 have hx:=rhex_c (cp:=c) w (fun j x hx => by obtain ⟨g,off,h1,h2,h3⟩:=E.oct j x hx; exact ⟨g,off,h1,h3⟩) hfit (by omega) (show rHex 4 0 L (p + 2) = .ok n (p + 2 + 4) from h)
 have HX:=Lib.hid hx
 have HE:=Lib.hid E
 have hch : isCh (n : Int):=by unfold isCh; omega
 clear E h hx
 go_enter Tryz.func138,Tryz.ntmps138
 go_wp2_with fail
 refine HX.out.mono ?_
 rintro e9 w1 ⟨rfl,rfl⟩
 have hE2:=HE.out.to hq
 have hb2 : But (fun k => k = rb) w (w.setCell ⟨rb,1,none⟩ (.int .i64 ((p + 6 : Nat) : Int))):=But.setCell (C:=fun k => k = rb) (p:=⟨rb,1,none⟩) (But.refl _ _) (.inl rfl) _
 have hs2 : (w.setCell ⟨rb,1,none⟩ (.int .i64 ((p + 6 : Nat) : Int))).heap.size = w.heap.size:=by simp [World.setCell]
 have e6 : ((p + 6 : Nat) : Int) = (p : Int) + 6:=by omega
 rw [e6] at hE2 hb2 hs2
 have HE2:=Lib.hid hE2
 have HB2:=Lib.hid hb2
 clear hE2 hb2 e6
 rcases hn with hn | hn
 all_goals
  go_wp2_with fail
  generalize (w.setCell ⟨rb,1,none⟩ (.int .i64 ((p : Int) + 6))) = w2 at *
  refine (Octets_c (n : Int) w2 hch).mono ?_
  rintro e9 w3 ⟨m,rfl,hrow,hb3⟩
  have HROW:=Lib.hid hrow
  have HB3:=Lib.hid hb3
  clear hrow hb3
  go_wp2_with fail
  go_ret
  rw [hs2] at HROW
  have hlt:=HE2.out.lt
  refine ⟨_,m,rfl,by omega,HROW.out,HE2.out.stay (C:=fun _ => False) (But.of HB3.out) (fun k h => h.elim),HB2.out.trans (But.of HB3.out)⟩
end Go.Proofs.YtkigpbkkhgabeaaGreatDoor
namespace Go.Proofs.YtkigpbkkhgabeaaGreatDoor
open Go.RowKit Go.Lib
theorem rAt_out {α β : Type} {F : Rd1 α} {G : α → Rd1 β} {b : List UInt8} {p q : Nat} {y : β} (h : rAt F G b p = .ok y q) : ∃ a q1,F b p = .ok a q1 ∧ G a b q1 = .ok y q:=by
 unfold rAt at h
 cases hF : F b p with
 | bad q1 e => rw [hF] at h; cases h
 | ok a q1 => rw [hF] at h; exact ⟨a,q1,rfl,h⟩
theorem rPeek_out {b : List UInt8} {p q : Nat} {c : UInt8} (h : rPeek b p = .ok c q) : b[p]? = some c ∧ q = p:=by
 unfold rPeek at h
 cases hc : b[p]? with
 | none => rw [hc] at h; cases h
 | some d => rw [hc] at h; injection h with h1 h2; exact ⟨by rw [h1],h2.symm⟩
theorem rHex_at : ∀ (k v : Nat) {M : List UInt8} {p n q : Nat},rHex k v M p = .ok n q → q = p + k ∧ n < (v + 1) * 16 ^ k
 | 0,v,M,p,n,q,h => by unfold rHex rPure at h; injection h with h1 h2; subst h1 h2; exact ⟨rfl,by omega⟩
 | k + 1,v,M,p,n,q,h => by
  obtain ⟨c,d,h1,h2,h3⟩:=rHex_step h
  obtain ⟨g1,g2⟩:=rHex_at k _ h3
  have hd : d < 16:=by rcases hexOf_cases h2 with h | h | h <;> omega
  refine ⟨by omega,Nat.lt_of_lt_of_le g2 ?_⟩
  rw [Nat.pow_succ,Nat.mul_comm (16 ^ k) 16,← Nat.mul_assoc]
  exact Nat.mul_le_mul_right _ (by omega)
theorem rMust_out {f : Nat} {i : Bool} {b : List UInt8} {p q : Nat} {u : Unit} (h : rMust f i b p = .ok u q) : i = true ∧ q = p:=by
 unfold rMust at h
 cases i with
 | true => simp at h; exact ⟨rfl,h.symm⟩
 | false => simp at h
theorem rLow_at {f : Nat} {b : List UInt8} {p q z : Nat} (h : rLow f b p = .ok z q) : p < q:=by
 unfold rLow at h
 obtain ⟨c,q1,h1,h2⟩:=rAt_out h
 obtain ⟨-,rfl⟩:=rPeek_out h1
 obtain ⟨u,q2,h3,h4⟩:=rAt_out h2
 obtain ⟨-,rfl⟩:=rMust_out h3
 obtain ⟨d,q3,h5,h6⟩:=rAt_out (p:=q2 + 1) h4
 obtain ⟨-,rfl⟩:=rPeek_out h5
 obtain ⟨u,q4,h7,h8⟩:=rAt_out h6
 obtain ⟨-,rfl⟩:=rMust_out h7
 obtain ⟨x,q5,h9,h10⟩:=rAt_out (p:=q2 + 1 + 1) h8
 have g1:=(rHex_at _ _ h9).1
 obtain ⟨u,q6,h11,h12⟩:=rAt_out h10
 obtain ⟨-,rfl⟩:=rMust_out h11
 obtain ⟨y,q7,h13,h14⟩:=rAt_out h12
 have g2:=(rHex_at _ _ h13).1
 obtain ⟨u,q8,h15,h16⟩:=rAt_out h14
 obtain ⟨-,rfl⟩:=rMust_out h15
 obtain ⟨v,q9,h17,h18⟩:=rAt_out h16
 have g3:=(rHex_at _ _ h17).1
 unfold rPure at h18
 injection h18 with _ h19
 omega
def escN : List Nat:=[34,92,47,98,102,110,114,116]
def escO : List Nat:=[34,92,47,8,12,10,13,9]
theorem escOf_out {d : UInt8} {z : Int} (h : escOf d = some z) : ∃ i,i < 8 ∧ nth escN i = d.toNat ∧ (nth escO i : Int) = z ∧ ∀ j,j < i → nth escN j ≠ d.toNat:=by
 unfold escOf at h
 have key : ∀ (v : UInt8) {a b : Option Int},(if d == v then a else b) = some z → (d = v ∧ a = some z) ∨ (d ≠ v ∧ b = some z):=fun v a b h => by
  by_cases e : d = v
  ·subst e; simp at h; exact .inl ⟨rfl,h⟩
  ·rw [if_neg (by simpa using e)] at h; exact .inr ⟨e,h⟩
 rcases key 34 h with ⟨rfl,h⟩ | ⟨-,h⟩
 ·injection h with h; subst h; exact ⟨0,by decide,rfl,rfl,fun j hj => absurd hj (by omega)⟩
 rcases key 92 h with ⟨rfl,h⟩ | ⟨-,h⟩
 ·injection h with h; subst h; exact ⟨1,by decide,rfl,rfl,by decide⟩
 rcases key 47 h with ⟨rfl,h⟩ | ⟨-,h⟩
 ·injection h with h; subst h; exact ⟨2,by decide,rfl,rfl,by decide⟩
 rcases key 98 h with ⟨rfl,h⟩ | ⟨-,h⟩
 ·injection h with h; subst h; exact ⟨3,by decide,rfl,rfl,by decide⟩
 rcases key 102 h with ⟨rfl,h⟩ | ⟨-,h⟩
 ·injection h with h; subst h; exact ⟨4,by decide,rfl,rfl,by decide⟩
 rcases key 110 h with ⟨rfl,h⟩ | ⟨-,h⟩
 ·injection h with h; subst h; exact ⟨5,by decide,rfl,rfl,by decide⟩
 rcases key 114 h with ⟨rfl,h⟩ | ⟨-,h⟩
 ·injection h with h; subst h; exact ⟨6,by decide,rfl,rfl,by decide⟩
 rcases key 116 h with ⟨rfl,h⟩ | ⟨-,h⟩
 ·injection h with h; subst h; exact ⟨7,by decide,rfl,rfl,by decide⟩
 ·cases h
end Go.Proofs.YtkigpbkkhgabeaaGreatDoor
namespace Go.Proofs.YtkigpbkkhgabeaaGreatDoor
open Go.RowKit Go.Lib
theorem u8n {c : UInt8} {n : Nat} (h : n < 256) : c = n.toUInt8 ↔ (c.toNat : Int) = n:=by
 constructor
 ·rintro rfl
  show ((n % 256 : Nat) : Int) = n
  omega
 ·intro e
  apply UInt8.toNat.inj
  show c.toNat = n % 256
  omega
theorem is34 {c : UInt8} : c = 34 ↔ (c.toNat : Int) = 34:=u8n (n:=34) (by omega)
theorem is92 {c : UInt8} : c = 92 ↔ (c.toNat : Int) = 92:=u8n (n:=92) (by omega)
end Go.Proofs.YtkigpbkkhgabeaaGreatDoor
namespace Go.Proofs.YtkigpbkkhgabeaaGreatDoor
open Go.RowKit Go.Lib
set_option maxRecDepth 100000 in
theorem rsp1_c (x : UInt8) (w : World) : Calls Tryz.prog 54 #[.int .u8 (x.toNat : Int)] w fun e w' => e = .returned (.bool (isWs x)) ∧ w = w':=by
 have h1 : isWs x = (((x.toNat : Int) == 32) || ((x.toNat : Int) == 9) || ((x.toNat : Int) == 10) || ((x.toNat : Int) == 13)):=by
  have key : ∀ n : Nat,n < 256 → (x == n.toUInt8) = ((x.toNat : Int) == (n : Int)):=fun n hn => by
   rw [Bool.eq_iff_iff,beq_iff_eq,beq_iff_eq]
   exact u8n hn
  unfold isWs
  have a:=key 32 (by omega); have b:=key 9 (by omega); have c:=key 10 (by omega); have d:=key 13 (by omega)
  rw [show (32 : UInt8) = (32 : Nat).toUInt8 from rfl,show (9 : UInt8) = (9 : Nat).toUInt8 from rfl,show (10 : UInt8) = (10 : Nat).toUInt8 from rfl,show (13 : UInt8) = (13 : Nat).toUInt8 from rfl,a,b,c,d]
  rfl
 rw [h1]
 clear h1
 generalize (x.toNat : Int) = z
 go_enter Tryz.func54,Tryz.ntmps54
 by_cases g1 : z = 32
 ·subst g1; go_wp2; go_ret; exact ⟨rfl,rfl⟩
 ·have e1 : (z == 32) = false:=by rw [beq_eq_false_iff_ne]; exact g1
  by_cases g2 : z = 9
  ·subst g2; go_wp2; go_ret; exact ⟨rfl,rfl⟩
  ·have e2 : (z == 9) = false:=by rw [beq_eq_false_iff_ne]; exact g2
   by_cases g3 : z = 10
   ·subst g3; go_wp2; go_ret; exact ⟨rfl,rfl⟩
   ·have e3 : (z == 10) = false:=by rw [beq_eq_false_iff_ne]; exact g3
    go_wp2
    go_ret
    exact ⟨by simp [e1,e2,e3],rfl⟩
set_option maxRecDepth 100000 in
set_option maxHeartbeats 2000000 in
theorem rSpace_c {M : List UInt8} {A : Option Addr} {cp p : Nat} (w : World) (hc : ∀ j x,M[j]? = some x → ∃ g off,A = some ⟨g,off,none⟩ ∧ w.cell? ⟨g,off + j,none⟩ = some (.int .u8 (x.toNat : Int))) (hl : M.length ≤ 65536) (hp : p ≤ M.length) :
  Calls Tryz.prog 33 #[.slice A M.length cp,.int .i64 (p : Int)] w fun e w' => e = .returned (.int .i64 ((p + ((M.drop p).takeWhile isWs).length : Nat) : Int)) ∧ w = w':=by
 obtain ⟨E,hE⟩ : ∃ E,p + ((M.drop p).takeWhile isWs).length = E:=⟨_,rfl⟩
 rw [hE]
 have HC:=Lib.hid hc
 clear hc
 have hm : max (0 : Int) (p : Int) = (p : Int):=by omega
 have h0 : Hid (p + ((M.drop p).takeWhile isWs).length = E):=hE
 clear hE
 go_enter Tryz.func33,Tryz.ntmps33
 go_wp2_with fail
 try rw [hm]
 go_loop [1] (fun iv => ∃ k : Nat,k ≤ M.length ∧ iv = .int .i64 (k : Int) ∧ Hid (k + ((M.drop k).takeWhile isWs).length = E)) (fun iv => M.length - (RowKit.intOf iv).toNat)
 case atStart => exact ⟨p,hp,rfl,h0⟩
 case round =>
  clear h0 hm
  obtain ⟨k,hk,rfl,hr⟩:=hrel
  by_cases hlt : k < M.length
  ·obtain ⟨x,hx⟩ : ∃ x,M[k]? = some x:=⟨_,List.getElem?_eq_getElem hlt⟩
   obtain ⟨g,off,rfl,hcell⟩:=HC.out k x hx
   have hd : M.drop k = x :: M.drop (k + 1):=by rw [List.drop_eq_getElem_cons hlt]; rw [List.getElem?_eq_getElem hlt] at hx; injection hx with hx; rw [hx]
   have hr2:=hr.out
   rw [hd] at hr2
   have hsp:=rsp1_c x w
   clear hr hd hx
   cases hw : isWs x with
   | true =>
    rw [hw] at hsp
    rw [List.takeWhile_cons_of_pos hw,List.length_cons] at hr2
    have hn : Hid (k + 1 + ((M.drop (k + 1)).takeWhile isWs).length = E):=by show _ = _; omega
    have HSP:=Lib.hid hsp
    clear hr2 hsp hw
    go_wp2_with fail
    refine HSP.out.mono ?_
    rintro e9 w9 ⟨rfl,rfl⟩
    go_wp2
    exact ⟨⟨k + 1,by omega,by go_num,hn⟩,by simp [RowKit.intOf]; omega⟩
   | false =>
    rw [hw] at hsp
    rw [List.takeWhile_cons_of_neg (by rw [hw]; decide),List.length_nil] at hr2
    have hn : k = E:=hr2
    subst hn
    have HSP:=Lib.hid hsp
    clear hr2 hsp hw
    go_wp2_with fail
    refine HSP.out.mono ?_
    rintro e9 w9 ⟨rfl,rfl⟩
    go_wp2
    go_ret
    exact ⟨rfl,rfl⟩
  ·have hn : k = E:=by
    have:=hr.out
    rw [List.drop_eq_nil_of_le (by omega)] at this
    exact this
   subst hn
   go_wp2
   go_ret
   exact ⟨rfl,rfl⟩
end Go.Proofs.YtkigpbkkhgabeaaGreatDoor
