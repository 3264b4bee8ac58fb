import Derived.Test.YtkigpbkkhgabeaaGreatDoorYUtextb
import Derived.Test.YtkigpbkkhgabeaaGreatDoorYLdp
set_option linter.unusedVariables false
set_option linter.unusedSimpArgs false
namespace Go.Proofs.YtkigpbkkhgabeaaGreatDoor
open Go.Lib
theorem lt_of_rises {ks : List ByteArray} (h : rises ks = true) : (ks.map fun s => s.data.toList).Pairwise (· < ·):=by
 induction ks with
 | nil => exact List.Pairwise.nil
 | cons a t ih =>
  cases t with
  | nil => simp
  | cons b u =>
   unfold rises at h
   rw [Bool.and_eq_true] at h
   have h1 : a.data.toList < b.data.toList:=by
    have:=h.1
    rw [bytesLess_eq,decide_eq_true_eq,ByteArray.toList_eq,ByteArray.toList_eq] at this
    exact this
   have h2:=ih h.2
   rw [List.map_cons]
   refine List.Pairwise.cons (fun x hx => ?_) h2
   rw [List.map_cons] at hx h2
   rcases List.mem_cons.1 hx with rfl | hx
   ·exact h1
   ·exact List.lt_trans h1 (List.rel_of_pairwise_cons h2 hx)
theorem lastAt_ex {ks : List ByteArray} {s : ByteArray} : s ∈ ks → (lastAt ks s ks.length).isSome = true:=fun h => by
 cases hx : lastAt ks s ks.length with
 | some i => rfl
 | none =>
  obtain ⟨i,hi,rfl⟩:=List.getElem_of_mem h
  have:=lastAt_none hx i hi
  rw [List.getD_eq_getElem?_getD,List.getElem?_eq_getElem hi] at this
  exact absurd rfl this
theorem nodup_of_rises {ks : List ByteArray} (h : rises ks = true) : ks.Nodup:=by
 have h1:=lt_of_rises h
 rw [List.pairwise_map] at h1
 exact h1.imp fun {a b} hab e => by rw [e] at hab; exact List.lt_irrefl _ hab
theorem keysB_self {ks : List ByteArray} (h : rises ks = true) : keysB ks = ks:=by
 have hp : (keysB ks).Perm ks:=(List.perm_ext_iff_of_nodup (nodup_of_rises (keysB_rises ks)) (nodup_of_rises h)).2 fun s => ⟨keysB_in,fun hs => keysB_mem.2 (lastAt_ex hs)⟩
 have h1:=lt_of_rises (keysB_rises ks)
 have h2:=lt_of_rises h
 rw [List.pairwise_map] at h1 h2
 exact hp.eq_of_pairwise (le:=fun a b : ByteArray => a.data.toList < b.data.toList) (fun a b _ _ x y => absurd y (List.lt_asymm x)) h1 h2
theorem obj_self {ks : List ByteArray} {l : List VT} (h : rises ks = true) (hl : ks.length = l.length) : objV ks l = .mk 6 false [] 0 ⟨#[]⟩ l ks:=by
 unfold objV
 rw [keysB_self h]
 congr 1
 refine List.ext_getElem (by rw [List.length_map]; exact hl) fun i h1 h2 => ?_
 rw [List.getElem_map]
 have hi : i < ks.length:=by omega
 have hs:=lastAt_ex (List.getElem_mem hi)
 unfold lastV
 cases hx : lastAt ks ks[i] ks.length with
 | none => rw [hx] at hs; cases hs
 | some j =>
  obtain ⟨j1,j2,_⟩:=lastAt_some hx
  rw [List.getD_eq_getElem?_getD,List.getElem?_eq_getElem j1] at j2
  have hj : j = i:=(List.getElem_inj (nodup_of_rises h)).1 j2
  subst hj
  show l.getD j VT0 = l[j]
  rw [List.getD_eq_getElem?_getD,List.getElem?_eq_getElem h2]
  rfl
theorem mkObj_zip {ks : List ByteArray} {l : List VT} (h : rises ks = true) (hl : ks.length = l.length) : mkObj (ks.zip l) = .mk 6 false [] 0 ⟨#[]⟩ l ks:=by
 unfold mkObj
 have h1 : (ks.zip l).map (fun x => x.1) = ks:=List.map_fst_zip (Nat.le_of_eq hl)
 have h2 : (ks.zip l).map (fun x => x.2) = l:=List.map_snd_zip (Nat.le_of_eq hl.symm)
 rw [h1,h2]
 exact obj_self h hl
end Go.Proofs.YtkigpbkkhgabeaaGreatDoor
namespace Go.Proofs.YtkigpbkkhgabeaaGreatDoor
open Go.Lib
def hxD (n : Nat) : UInt8:=if n < 10 then UInt8.ofNat (48 + n) else UInt8.ofNat (87 + n)
def quoteC (c : Int) : List UInt8 :=
 if c = 34 then [92,34] else if c = 92 then [92,92] else if c = 8 then [92,98] else if c = 9 then [92,116] else if c = 10 then [92,110]
 else if c = 12 then [92,102] else if c = 13 then [92,114]
 else if c < 32 ∨ c = 127 then [92,117,48,48,hxD (c.toNat / 16),hxD (c.toNat % 16)] else encodeRune c
theorem char_plain {c : Int} (h : isCh c) (h32 : 32 ≤ c) (h92 : c ≠ 92) (r : List UInt8) : rChar (encodeRune c ++ r) 0 = .ok c (encodeRune c).length:=by
 obtain ⟨p1,p2⟩:=part_enc h r
 have hne:=enc_ne c r
 have hc : c ≠ -1:=by unfold isCh at h; omega
 have hf : fullL (encodeRune c ++ r) = true:=full_part hne (by rw [p1]; exact hc)
 unfold rChar rAt rPeek
 cases hx : encodeRune c ++ r with
 | nil => exact absurd hx hne
 | cons a t =>
  have ha : a ≠ 92 ∧ ¬ a < 32:=by
   have hd : decodeL (a :: t) = (c.toNat,(encodeRune c).length):=by rw [← hx]; exact decode_enc h r
   rw [decodeL_N] at hd
   have g0 : (a :: t).getD 0 0 = a:=rfl
   rw [g0] at hd
   by_cases hlt : a.toNat < 128
   ·have e : decodeN (a :: t).length a.toNat ((a :: t).getD 1 0).toNat ((a :: t).getD 2 0).toNat ((a :: t).getD 3 0).toNat = (a.toNat,1):=by unfold decodeN; rw [if_pos hlt]
    rw [e] at hd
    injection hd with hd1 _
    have hcc : 0 ≤ c:=by omega
    refine ⟨fun e => ?_,fun e => ?_⟩
    ·have:=(u8_eq a 92 (by omega)).1 e; omega
    ·have:=(u8_lt a 32 (by omega)).1 e; omega
   ·refine ⟨fun e => ?_,fun e => ?_⟩
    ·have:=(u8_eq a 92 (by omega)).1 e; omega
    ·have:=(u8_lt a 32 (by omega)).1 e; omega
  simp only [List.getElem?_cons_zero,RR.bind]
  rw [if_neg (by simpa using ha.1),if_neg ha.2,List.drop_zero,← hx,if_pos hf,p1,if_neg hc,p2,Nat.zero_add]
theorem char_low (n : Nat) (h : n < 32 ∨ n = 34 ∨ n = 92 ∨ n = 127) (r : List UInt8) : rChar (quoteC (n : Int) ++ r) 0 = .ok (n : Int) (quoteC (n : Int)).length:=by
 have hc : n = 0 ∨ n = 1 ∨ n = 2 ∨ n = 3 ∨ n = 4 ∨ n = 5 ∨ n = 6 ∨ n = 7 ∨ n = 8 ∨ n = 9 ∨ n = 10 ∨ n = 11 ∨ n = 12 ∨ n = 13 ∨ n = 14 ∨ n = 15 ∨ n = 16 ∨ n = 17 ∨ n = 18 ∨ n = 19 ∨ n = 20 ∨ n = 21 ∨ n = 22 ∨ n = 23 ∨ n = 24 ∨ n = 25 ∨ n = 26 ∨ n = 27 ∨ n = 28 ∨ n = 29 ∨ n = 30 ∨ n = 31 ∨ n = 34 ∨ n = 92 ∨ n = 127:=by omega
 rcases hc with rfl | rfl | rfl | rfl | rfl | rfl | rfl | rfl | rfl | rfl | rfl | rfl | rfl | rfl | rfl | rfl | rfl | rfl | rfl | rfl | rfl | rfl | rfl | rfl | rfl | rfl | rfl | rfl | rfl | rfl | rfl | rfl | rfl | rfl | rfl <;> rfl
theorem char_back {c : Int} (h : isCh c) (r : List UInt8) : rChar (quoteC c ++ r) 0 = .ok c (quoteC c).length:=by
 by_cases hl : c < 32 ∨ c = 34 ∨ c = 92 ∨ c = 127
 ·have h0 : 0 ≤ c:=by unfold isCh at h; omega
  obtain ⟨n,rfl⟩ : ∃ n : Nat,c = (n : Int):=⟨c.toNat,by omega⟩
  exact char_low n (by omega) r
 ·have e : quoteC c = encodeRune c:=by
   unfold quoteC
   rw [if_neg (by omega),if_neg (by omega),if_neg (by omega),if_neg (by omega),if_neg (by omega),if_neg (by omega),if_neg (by omega),if_neg (by omega)]
  rw [e]
  exact char_plain h (by omega) (by omega) r
theorem quote_head {c : Int} (h : isCh c) : ∃ x t,quoteC c = x :: t ∧ x ≠ 34:=by
 by_cases hl : c < 32 ∨ c = 34 ∨ c = 92 ∨ c = 127
 ·unfold quoteC
  repeat' split
  all_goals first
   | exact ⟨92,_,rfl,by decide⟩
   | (exfalso; omega)
 ·have e : quoteC c = encodeRune c:=by
   unfold quoteC
   rw [if_neg (by omega),if_neg (by omega),if_neg (by omega),if_neg (by omega),if_neg (by omega),if_neg (by omega),if_neg (by omega),if_neg (by omega)]
  rw [e]
  cases hx : encodeRune c with
  | nil => exact absurd (by rw [List.append_nil]; exact hx) (enc_ne c [])
  | cons a t =>
   refine ⟨a,t,rfl,fun e34 => ?_⟩
   have hd:=decode_enc h []
   rw [List.append_nil,hx,decodeL_N] at hd
   have g0 : (a :: t).getD 0 0 = a:=rfl
   have h34:=(u8_eq a 34 (by omega)).1 e34
   rw [g0] at hd
   have e : decodeN (a :: t).length a.toNat ((a :: t).getD 1 0).toNat ((a :: t).getD 2 0).toNat ((a :: t).getD 3 0).toNat = (a.toNat,1):=by unfold decodeN; rw [if_pos (by omega)]
   rw [e] at hd
   injection hd with hd1 _
   unfold isCh at h
   omega
end Go.Proofs.YtkigpbkkhgabeaaGreatDoor
namespace Go.Proofs.YtkigpbkkhgabeaaGreatDoor
open Go.Lib
section
variable {l r : List UInt8} (hr : ∀ c,r.head? = some c → isWd c = false)
include hr
theorem look {i : Nat} (hi : i ≤ l.length) : (∃ c,(l ++ r)[i]? = some c ∧ i < l.length ∧ nth (l.map (·.toNat)) i = c.toNat) ∨ (i = l.length ∧ nth (l.map (·.toNat)) i = 0 ∧ ∀ c,(l ++ r)[i]? = some c → isWd c = false):=by
 rcases Nat.lt_or_ge i l.length with h | h
 ·refine .inl ⟨l[i],by rw [List.getElem?_append_left h,List.getElem?_eq_getElem h],h,?_⟩
  unfold nth
  rw [List.getD_eq_getElem?_getD,List.getElem?_map,List.getElem?_eq_getElem h]
  rfl
 ·obtain rfl : i = l.length:=by omega
  refine .inr ⟨rfl,nth_none (by rw [List.length_map]; exact Nat.le_refl _),fun c hc => hr c ?_⟩
  rw [List.getElem?_append_right (Nat.le_refl _),Nat.sub_self] at hc
  rw [List.head?_eq_getElem?]; exact hc
theorem skipF {f : UInt8 → Bool} {P : Nat → Prop} [DecidablePred P] (hf : ∀ c : UInt8,f c = true ↔ P c.toNat) (h0 : ¬ P 0) (hw : ∀ c,f c = true → isWd c = true) {i : Nat} (hi : i ≤ l.length) :
  rSkip f (l ++ r) i = if P (nth (l.map (·.toNat)) i) then .ok true (i + 1) else .ok false i:=by
 unfold rSkip
 rcases look hr hi with ⟨c,hc,hl,hn⟩ | ⟨he,hn,hc⟩
 ·rw [hc,hn]
  simp only
  by_cases h : f c = true
  ·rw [if_pos h,if_pos ((hf c).1 h)]
  ·rw [if_neg h,if_neg (fun hp => h ((hf c).2 hp))]
 ·rw [hn,if_neg h0]
  cases hb : (l ++ r)[i]? with
  | none => rfl
  | some c =>
   have h : ¬ f c = true:=fun hx => by have:=hw c hx; rw [hc c hb] at this; cases this
   simp only
   rw [if_neg h]
theorem dEnd_b {i : Nat} (hi : i ≤ l.length) : i + (((l ++ r).drop i).takeWhile isDg).length = dEnd (l.map (·.toNat)) i:=by
 have hrr : r.takeWhile isDg = []:=by
  cases r with
  | nil => rfl
  | cons c t =>
   have:=hr c rfl
   have h2 : isDg c = false:=by
    unfold isWd at this
    simp only [Bool.or_eq_false_iff] at this
    exact this.1.1.1.1.1.1
   rw [List.takeWhile_cons_of_neg (by rw [h2]; decide)]
 unfold dEnd
 rw [← List.map_drop,List.takeWhile_map,List.length_map,show ((isDig ∘ fun x : UInt8 => x.toNat) : UInt8 → Bool) = isDg by funext c; exact dg_N c]
 rw [List.drop_append_of_le_length hi,List.takeWhile_append]
 split
 ·rw [hrr,List.append_nil]
  rename_i h
  omega
 ·rfl
theorem digits_b {i : Nat} (hi : i ≤ l.length) (hd : isDig (nth (l.map (·.toNat)) i) = true) : rDigits (l ++ r) i = .ok () (dEnd (l.map (·.toNat)) i):=by
 rcases look hr hi with ⟨c,hc,hl,hn⟩ | ⟨he,hn,hc⟩
 ·rw [hn,dg_N] at hd
  unfold rDigits rAt rNeed
  rw [hc]
  simp only
  rw [if_pos hd]
  simp only [RR.bind]
  unfold rSkips
  have hd2 : isDig (nth (l.map (·.toNat)) i) = true:=by rw [hn,dg_N]; exact hd
  rw [dEnd_step hd2,dEnd_b hr (i:=i + 1) (by omega)]
 ·rw [hn,isDig_zero] at hd; cases hd
theorem numeral_back (h : form (l.map (·.toNat)) = some l.length) : rNumeral (l ++ r) 0 = .ok () l.length:=by
 have e8 : ∀ (k : Nat),k < 256 → ∀ c : UInt8,((c == UInt8.ofNat k) = true ↔ c.toNat = k):=fun k hk c => by
  rw [beq_iff_eq]; exact u8_eq c k hk
 have L : ∀ {k : Nat},k ≤ (l.map (·.toNat)).length → k ≤ l.length:=fun {k} hk => by rw [List.length_map] at hk; exact hk
 have hs45:=fun {i} hi => skipF (l:=l) (i:=i) hr (f:=(· == 45)) (P:=fun n => n = 45) (e8 45 (by omega)) (by decide) (fun c hc => by rw [beq_iff_eq] at hc; subst hc; decide) hi
 have hs48:=fun {i} hi => skipF (l:=l) (i:=i) hr (f:=(· == 48)) (P:=fun n => n = 48) (e8 48 (by omega)) (by decide) (fun c hc => by rw [beq_iff_eq] at hc; subst hc; decide) hi
 have hs46:=fun {i} hi => skipF (l:=l) (i:=i) hr (f:=(· == 46)) (P:=fun n => n = 46) (e8 46 (by omega)) (by decide) (fun c hc => by rw [beq_iff_eq] at hc; subst hc; decide) hi
 have hsE:=fun {i} hi => skipF (l:=l) (i:=i) hr (f:=fun c => c == 101 || c == 69) (P:=fun n => n = 101 ∨ n = 69) (fun c => by rw [Bool.or_eq_true]; exact or_congr (e8 101 (by omega) c) (e8 69 (by omega) c)) (by decide) (fun c hc => by rw [Bool.or_eq_true,beq_iff_eq,beq_iff_eq] at hc; rcases hc with rfl | rfl <;> decide) hi
 have hsS:=fun {i} hi => skipF (l:=l) (i:=i) hr (f:=fun c => c == 43 || c == 45) (P:=fun n => n = 43 ∨ n = 45) (fun c => by rw [Bool.or_eq_true]; exact or_congr (e8 43 (by omega) c) (e8 45 (by omega) c)) (by decide) (fun c hc => by rw [Bool.or_eq_true,beq_iff_eq,beq_iff_eq] at hc; rcases hc with rfl | rfl <;> decide) hi
 obtain ⟨xs,hxs⟩ : ∃ xs,xs = l.map (·.toNat):=⟨_,rfl⟩
 have hlen : xs.length = l.length:=by rw [hxs,List.length_map]
 unfold form at h
 cases hw : fWhole (l.map (·.toNat)) (fSgn (l.map (·.toNat))) with
 | none => rw [hw] at h; cases h
 | some k3 =>
  rw [hw] at h
  have h' : (fFrac (l.map (·.toNat)) k3).bind (fPow (l.map (·.toNat))) = some l.length:=h
  cases hf : fFrac (l.map (·.toNat)) k3 with
  | none => rw [hf] at h'; cases h'
  | some k5 =>
   rw [hf] at h'
   have hp : fPow (l.map (·.toNat)) k5 = some l.length:=h'
   clear h h'
   have s1 : ∃ z,rSkip (· == 45) (l ++ r) 0 = .ok z (fSgn (l.map (·.toNat))) ∧ fSgn (l.map (·.toNat)) ≤ l.length:=by
    rw [hs45 (Nat.zero_le _)]
    unfold fSgn
    by_cases c : nth (l.map (·.toNat)) 0 = 45
    ·rw [if_pos c,if_pos c]
     exact ⟨_,rfl,L (nth_pos_lt c (by omega))⟩
    ·rw [if_neg c,if_neg c]; exact ⟨_,rfl,Nat.zero_le _⟩
   obtain ⟨z1,s1,b1⟩:=s1
   obtain ⟨k1,hk1⟩ : ∃ k1,k1 = fSgn (l.map (·.toNat)):=⟨_,rfl⟩
   rw [← hk1] at s1 b1 hw
   unfold fWhole at hw
   split at hw
   ·rename_i hd
    injection hw with hw
    have hlt : k1 < l.length:=by have:=dig_lt hd; rw [List.length_map] at this; exact this
    have s2 : ∃ z k2,rSkip (· == 48) (l ++ r) k1 = .ok z k2 ∧ (if z then rPure () else rDigits) (l ++ r) k2 = .ok () k3:=by
     rw [hs48 b1]
     by_cases c : nth (l.map (·.toNat)) k1 = 48
     ·rw [if_pos c]; rw [if_pos c] at hw
      refine ⟨true,k1 + 1,rfl,?_⟩
      rw [← hw]; rfl
     ·rw [if_neg c]; rw [if_neg c] at hw
      refine ⟨false,k1,rfl,?_⟩
      rw [if_neg (by decide),digits_b hr b1 hd,hw]
    obtain ⟨z2,k2,s2,s3⟩:=s2
    have b3 : k3 ≤ l.length:=by
     rw [← hw]
     split
     ·omega
     ·exact L (dEnd_le (by rw [List.length_map]; omega))
    have s4 : ∃ z k4,rSkip (· == 46) (l ++ r) k3 = .ok z k4 ∧ (if z then rDigits else rPure ()) (l ++ r) k4 = .ok () k5 ∧ k5 ≤ l.length:=by
     rw [hs46 b3]
     unfold fFrac at hf
     by_cases c : nth (l.map (·.toNat)) k3 = 46
     ·rw [if_pos c]; rw [if_pos c] at hf
      split at hf
      ·rename_i hd2
       injection hf with hf
       have hlt2:=dig_lt hd2
       rw [List.length_map] at hlt2
       refine ⟨true,k3 + 1,rfl,?_,?_⟩
       ·rw [if_pos rfl,digits_b hr (by omega) hd2,hf]
       ·rw [← hf]; exact L (dEnd_le (by rw [List.length_map]; omega))
      ·cases hf
     ·rw [if_neg c]; rw [if_neg c] at hf
      injection hf with hf
      exact ⟨false,k3,rfl,by rw [← hf]; rfl,by omega⟩
    obtain ⟨z4,k4,s4,s5,b5⟩:=s4
    have s6 : ∃ z k6,rSkip (fun c => c == 101 || c == 69) (l ++ r) k5 = .ok z k6 ∧ (if z then rAt (rSkip fun c => c == 43 || c == 45) fun _ => rDigits else rPure ()) (l ++ r) k6 = .ok () l.length:=by
     rw [hsE b5]
     unfold fPow at hp
     by_cases c : nth (l.map (·.toNat)) k5 = 101 ∨ nth (l.map (·.toNat)) k5 = 69
     ·rw [if_pos c]; rw [if_pos c] at hp
      split at hp
      ·rename_i hd2
       injection hp with hp
       have hlt2:=dig_lt hd2
       rw [List.length_map] at hlt2
       have b6 : k5 + 1 ≤ l.length:=by unfold fSg at hlt2; split at hlt2 <;> omega
       refine ⟨true,k5 + 1,rfl,?_⟩
       rw [if_pos rfl]
       unfold rAt
       rw [hsS b6]
       unfold fSg at hd2 hp hlt2
       by_cases c2 : nth (l.map (·.toNat)) (k5 + 1) = 43 ∨ nth (l.map (·.toNat)) (k5 + 1) = 45
       ·rw [if_pos c2]; rw [if_pos c2] at hd2 hp hlt2
        simp only [RR.bind]
        rw [digits_b hr (by omega) hd2,hp]
       ·rw [if_neg c2]; rw [if_neg c2] at hd2 hp hlt2
        simp only [RR.bind]
        rw [digits_b hr (by omega) hd2,hp]
      ·cases hp
     ·rw [if_neg c]; rw [if_neg c] at hp
      injection hp with hp
      exact ⟨false,k5,rfl,by rw [hp]; rfl⟩
    obtain ⟨z6,k6,s6,s7⟩:=s6
    unfold rNumeral
    unfold rAt
    rw [s1]; simp only [RR.bind]
    rw [s2]; simp only [RR.bind]
    rw [s3]; simp only [RR.bind]
    rw [s4]; simp only [RR.bind]
    rw [s5]; simp only [RR.bind]
    rw [s6]; simp only [RR.bind]
    exact s7
   ·cases hw
theorem number_back (h : fE (l.map (·.toNat)) = 0) : rNumber (l ++ r) 0 = .ok (numV (l.map (·.toNat))) l.length:=by
 have hform : form (l.map (·.toNat)) = some l.length:=by
  unfold fE at h
  split at h
  ·rename_i hg
   have:=hg.1
   rw [List.length_map] at this
   exact this
  ·split at h <;> omega
 have hc : cutN (l ++ r) 0 l.length = l.map (·.toNat):=by
  unfold cutN
  rw [List.drop_zero,Nat.sub_zero,List.take_append_of_le_length (Nat.le_refl _),List.take_length]
 have ha : rApart (l ++ r) l.length = .ok () l.length:=by
  unfold rApart
  rw [List.getElem?_append_right (Nat.le_refl _),Nat.sub_self]
  cases r with
  | nil => rfl
  | cons c t =>
   have:=hr c rfl
   simp only [List.getElem?_cons_zero]
   rw [this,if_neg (by decide)]
 unfold rNumber
 rw [numeral_back hr hform]
 simp only [RR.bind]
 rw [hc,if_pos h,ha]
end
end Go.Proofs.YtkigpbkkhgabeaaGreatDoor
namespace Go.Proofs.YtkigpbkkhgabeaaGreatDoor
open Go.Lib
theorem rAt_chain {α β : Type} {F : Rd1 α} {G : α → Rd1 β} {w w2 r : List UInt8} {a : α} {b : β} (hG : Shift (fun _ => G a)) (h1 : F (w ++ (w2 ++ r)) 0 = .ok a w.length) (h2 : G a (w2 ++ r) 0 = .ok b w2.length) :
  rAt F G ((w ++ w2) ++ r) 0 = .ok b (w ++ w2).length:=by
 unfold rAt
 rw [List.append_assoc,h1]
 simp only [RR.bind]
 have h3 : G a (w ++ (w2 ++ r)) (w.length + 0) = (G a (w2 ++ r) 0).shift w.length:=hG 0 w (w2 ++ r) 0
 rw [Nat.add_zero] at h3
 rw [h3,h2,List.length_append]; rfl
def Apart (r : List UInt8) : Prop:=∀ c,r[0]? = some c → isWd c = false
theorem skips_ws {w r : List UInt8} (hw : ∀ c ∈ w,isWs c = true) (hr : ∀ c,r[0]? = some c → isWs c = false) : rSkips isWs (w ++ r) 0 = .ok () w.length:=by
 unfold rSkips
 rw [List.drop_zero]
 have h : (w ++ r).takeWhile isWs = w:=by
  rw [List.takeWhile_append_of_pos hw]
  cases r with
  | nil => simp
  | cons c t =>
   rw [List.takeWhile_cons,hr c rfl]
   simp
 rw [h,Nat.zero_add]
theorem need_one {f : UInt8 → Bool} {c : UInt8} {r : List UInt8} (h : f c = true) : rNeed f ([c] ++ r) 0 = .ok () [c].length:=by
 unfold rNeed
 simp [h]
theorem forall_ws (x : UInt8) : isWs x = true → isWd x = false:=by
 intro h
 unfold isWs at h
 simp only [Bool.or_eq_true,beq_iff_eq] at h
 rcases h with ((h | h) | h) | h <;> subst h <;> decide
structure QcOk (qc : Int → List UInt8) : Prop where
 back : ∀ {c},isCh c → ∀ r,rChar (qc c ++ r) 0 = .ok c (qc c).length
 head : ∀ {c},isCh c → ∃ x t,qc c = x :: t ∧ x ≠ 34
def qL (qc : Int → List UInt8) (cs : List Int) : List UInt8:=cs.flatMap qc
theorem qL_cons (qc : Int → List UInt8) (c : Int) (cs : List Int) : qL qc (c :: cs) = qc c ++ qL qc cs:=rfl
theorem charsQ {qc : Int → List UInt8} (H : QcOk qc) : ∀ (cs : List Int) (n : Nat) (acc r : List UInt8),(∀ c ∈ cs,isCh c) → cs.length < n → rChars n acc (qL qc cs ++ 34 :: r) 0 = .ok (acc ++ enc cs) ((qL qc cs).length + 1)
 | [],n + 1,acc,r,_,_ => by
  unfold rChars rAt rPeek
  simp [qL,enc,RR.bind]
 | [],0,acc,r,_,hn => absurd hn (by simp)
 | c :: cs,0,acc,r,_,hn => absurd hn (by simp)
 | c :: cs,n + 1,acc,r,hc,hn => by
  have h1:=hc c (by simp)
  have ih:=charsQ H cs n (acc ++ encodeRune c) r (fun d hd => hc d (by simp [hd])) (by rw [List.length_cons] at hn; omega)
  obtain ⟨x,t,hx,hx34⟩:=H.head h1
  have hb:=H.back h1 (qL qc cs ++ 34 :: r)
  have hs : rChars n (acc ++ encodeRune c) (qc c ++ (qL qc cs ++ 34 :: r)) ((qc c).length + 0) = (rChars n (acc ++ encodeRune c) (qL qc cs ++ 34 :: r) 0).shift (qc c).length:=Shift.chars n (acc ++ encodeRune c) 0 (qc c) (qL qc cs ++ 34 :: r) 0
  rw [Nat.add_zero,ih] at hs
  rw [qL_cons,List.append_assoc]
  unfold rChars
  have hp : rPeek (qc c ++ (qL qc cs ++ 34 :: r)) 0 = .ok x 0:=by rw [hx]; rfl
  unfold rAt
  rw [hp]
  simp only [RR.bind]
  rw [if_neg (by simpa using hx34),hb]
  simp only [RR.bind]
  rw [hs]
  simp only [RR.shift]
  rw [enc_cons,← List.append_assoc,List.length_append,Nat.add_assoc]
theorem pcs_gd (l : List UInt8) : ∀ p ∈ pcs l,p.2 ≠ -1 → isCh p.2 ∧ p.1 = encodeRune p.2:=by
 refine text_ind (p:=fun l => ∀ p ∈ pcs l,p.2 ≠ -1 → isCh p.2 ∧ p.1 = encodeRune p.2) (fun p h => by cases h) (fun l hl ih => ?_) l
 intro p hp hn
 rw [pcs_cons hl,List.mem_cons] at hp
 rcases hp with rfl | hp
 ·rcases part_cases hl with ⟨h,_⟩ | ⟨_,h1,h2,_⟩
  ·exact absurd h hn
  ·exact ⟨h1,h2⟩
 ·exact ih p hp hn
theorem flat_same {α β : Type} (f g : α → List β) : ∀ l : List α,(∀ x ∈ l,f x = g x) → l.flatMap f = l.flatMap g
 | [],_ => rfl
 | x :: l,h => by rw [List.flatMap_cons,List.flatMap_cons,h x (by simp),flat_same f g l (fun y hy => h y (by simp [hy]))]
theorem charsT {l : List UInt8} (h : isT l = true) : enc ((pcs l).map (·.2)) = l ∧ ∀ c ∈ (pcs l).map (·.2),isCh c:=by
 rw [isT_iff] at h
 refine ⟨?_,fun c hc => ?_⟩
 ·conv => rhs; rw [← pcs_flat l]
  unfold enc
  rw [List.flatMap_map]
  refine flat_same _ _ _ fun p hp => ?_
  exact (pcs_gd l p hp (h p hp)).2.symm
 ·rw [List.mem_map] at hc
  obtain ⟨p,hp,rfl⟩:=hc
  exact (pcs_gd l p hp (h p hp)).1
def txtL (qc : Int → List UInt8) (s : ByteArray) : List UInt8:=34 :: (qL qc ((pcs s.data.toList).map (·.2)) ++ [34])
theorem textQ {qc : Int → List UInt8} (H : QcOk qc) {s : ByteArray} (hT : isT s.data.toList = true) (hs : s.size ≤ 16384) (r : List UInt8) : rText (txtL qc s ++ r) 0 = .ok s (txtL qc s).length:=by
 have hlen : ∀ l : List Int,l.length ≤ (enc l).length:=fun l => by
  induction l with
  | nil => simp
  | cons c l ih => rw [enc_cons,List.length_append,List.length_cons]; have:=enc_len c; omega
 have he:=(charsT hT).1
 have hel : (enc ((pcs s.data.toList).map (·.2))).length ≤ 16384:=by rw [he,Array.length_toList]; exact hs
 have h1:=charsQ H ((pcs s.data.toList).map (·.2)) fuelR [] r (charsT hT).2 (by unfold fuelR; have:=hlen ((pcs s.data.toList).map (·.2)); omega)
 have hsh : rChars fuelR [] ([34] ++ (qL qc ((pcs s.data.toList).map (·.2)) ++ 34 :: r)) (1 + 0) = (rChars fuelR [] (qL qc ((pcs s.data.toList).map (·.2)) ++ 34 :: r) 0).shift 1:=Shift.chars fuelR [] 0 [34] (qL qc ((pcs s.data.toList).map (·.2)) ++ 34 :: r) 0
 rw [h1] at hsh
 unfold rText
 rw [show txtL qc s ++ r = [34] ++ (qL qc ((pcs s.data.toList).map (·.2)) ++ 34 :: r) from by simp [txtL],show 0 + 1 = 1 + 0 from rfl,hsh]
 simp only [RR.shift,RR.bind,List.nil_append]
 rw [if_neg (by omega),he]
 congr 1
 simp [txtL]
 omega
theorem Qc_plain : QcOk quoteC:=⟨fun h r => char_back h r,fun h => quote_head h⟩
def lineL (st o : Nat) : List UInt8:=if st = 0 then [] else 10 :: List.replicate (st * o) 32
theorem lineL_ws (st o : Nat) : ∀ c ∈ lineL st o,isWs c = true:=fun c hc => by
 unfold lineL at hc
 split at hc
 ·exact absurd hc (by simp)
 ·rcases List.mem_cons.1 hc with rfl | hc
  ·decide
  ·rw [(List.mem_replicate.1 hc).2]; decide
def itT {α : Type} (st o : Nat) (en : UInt8) : Bool → List (α × List UInt8) → List UInt8
 | _,[] => [en]
 | first,x :: r => (if first then [] else 44 :: lineL st (o + 1)) ++ (x.2 ++ ((if r.isEmpty then lineL st o else []) ++ itT st o en false r))
theorem items_back {α : Type} {en : UInt8} {item : Nat → Rd1 α} (hsh : ∀ nth,Shift (fun _ => item nth)) (st o : Nat) (he1 : isWs en = false) (he2 : en ≠ 44) (he3 : isWd en = false) :
  ∀ (l : List (α × List UInt8)) (n nth : Nat) (r : List UInt8),l.length < n → 1 ≤ nth → (∀ i x,l[i]? = some x → ∀ r',Apart r' → item (nth + i) (x.2 ++ r') 0 = .ok x.1 x.2.length) →
   (∀ x ∈ l,∃ c t,x.2 = c :: t ∧ isWs c = false ∧ c ≠ en) → rItemsF en item n nth (itT st o en (decide (nth = 1)) l ++ r) 0 = .ok (l.map (·.1)) (itT st o en (decide (nth = 1)) l).length
 | [],n + 1,nth,r,_,_,_,_ => by
  unfold rItemsF rAt rPeek
  simp [itT,RR.bind]
 | [],0,nth,r,hn,_,_,_ => absurd hn (by simp)
 | x :: l,0,nth,r,hn,_,_,_ => absurd hn (by simp)
 | x :: l,n + 1,nth,r,hn,h1,hi,hh => by
  obtain ⟨c,t,hx2,hcw,hce⟩:=hh x (by simp)
  have ih:=items_back hsh st o he1 he2 he3 l n (nth + 1) r (by rw [List.length_cons] at hn; omega) (by omega) (fun i y hy r' hr' => by
   have:=hi (i + 1) y (by simpa using hy) r' hr'
   rwa [show nth + (i + 1) = nth + 1 + i by omega] at this) (fun y hy => hh y (by simp [hy]))
  rw [show decide (nth + 1 = 1) = false from decide_eq_false (by omega)] at ih
  obtain ⟨gap,hgap⟩ : ∃ g,(if l.isEmpty then lineL st o else []) = g:=⟨_,rfl⟩
  obtain ⟨more,hmore⟩ : ∃ g,itT st o en false l = g:=⟨_,rfl⟩
  have hgw : ∀ d ∈ gap,isWs d = true:=fun d hd => by
   rw [← hgap] at hd
   split at hd
   ·exact lineL_ws _ _ d hd
   ·exact absurd hd (by simp)
  have hmh : ∃ d t',more = d :: t' ∧ isWs d = false ∧ isWd d = false:=by
   rw [← hmore]
   cases l with
   | nil => exact ⟨en,[],rfl,he1,he3⟩
   | cons y l => exact ⟨44,_,rfl,by decide,by decide⟩
  obtain ⟨d,t',hd,hd1,hd2⟩:=hmh
  have hap : Apart (gap ++ (more ++ r)):=fun e he => by
   cases hg : gap with
   | nil =>
    rw [hg,hd] at he
    have he : d = e:=by simpa using he
    rw [← he]; exact hd2
   | cons g gs =>
    rw [hg] at he
    have he : g = e:=by simpa using he
    rw [← he]
    exact forall_ws g (hgw g (by rw [hg]; simp))
  have hit:=hi 0 x rfl (gap ++ (more ++ r)) hap
  rw [Nat.add_zero] at hit
  rw [hmore] at ih
  have hrest : rAt (item nth) (fun a => rAt (rSkips isWs) fun _ => rAt (rItemsF en item n (nth + 1)) fun l => rPure (a :: l)) ((x.2 ++ (gap ++ (more ++ []))) ++ r) 0 = .ok (x.1 :: l.map (·.1)) (x.2 ++ (gap ++ (more ++ []))).length:=by
   refine rAt_chain (a:=x.1) (Shift.at (G:=fun _ _ => _) (Shift.skips _) fun _ => Shift.at (G:=fun _ l => rPure (x.1 :: l)) (Shift.itemsF hsh n (nth + 1)) fun l => Shift.pure _) ?_ ?_
   ·simpa using hit
   ·refine rAt_chain (a:=()) (Shift.at (G:=fun _ l => rPure (x.1 :: l)) (Shift.itemsF hsh n (nth + 1)) fun l => Shift.pure _) ?_ ?_
    ·exact skips_ws hgw (fun e he => (show d = e by rw [hd] at he; simpa using he) ▸ hd1)
    ·exact rAt_chain (a:=l.map (·.1)) (Shift.pure _) (by simpa using ih) rfl
  rw [List.append_nil] at hrest
  have hsh2 : Shift (fun _ => rAt (item nth) (fun a => rAt (rSkips isWs) fun _ => rAt (rItemsF en item n (nth + 1)) fun l => rPure (a :: l))) :=
   Shift.at (G:=fun _ a => rAt (rSkips isWs) fun _ => rAt (rItemsF en item n (nth + 1)) fun l => rPure (a :: l)) (hsh nth) fun a => Shift.at (G:=fun _ _ => _) (Shift.skips _) fun _ => Shift.at (G:=fun _ l => rPure (a :: l)) (Shift.itemsF hsh n (nth + 1)) fun l => Shift.pure _
  unfold itT
  rw [hgap,hmore]
  unfold rItemsF
  by_cases h1n : nth = 1
  ·subst h1n
   rw [show decide ((1 : Nat) = 1) = true from rfl]
   simp only [if_true,List.nil_append]
   have hp : rPeek (x.2 ++ (gap ++ more) ++ r) 0 = .ok c 0:=by rw [hx2]; rfl
   show (rPeek _ 0).bind _ = _
   rw [hp]
   simp only [RR.bind]
   rw [if_neg (by simpa using hce),if_neg (by omega)]
   exact rAt_chain (w:=[]) (F:=rPure ()) (G:=fun _ => rAt (item 1) (fun a => rAt (rSkips isWs) fun _ => rAt (rItemsF en item n (1 + 1)) fun l => rPure (a :: l))) (a:=()) hsh2 rfl hrest
  ·rw [show decide (nth = 1) = false from decide_eq_false h1n]
   simp only [Bool.false_eq_true,if_false]
   have hp : rPeek (44 :: lineL st (o + 1) ++ (x.2 ++ (gap ++ more)) ++ r) 0 = .ok 44 0:=rfl
   show (rPeek _ 0).bind _ = _
   rw [hp]
   simp only [RR.bind]
   rw [if_neg (by simpa using fun h => he2 h.symm),if_pos (by omega)]
   refine rAt_chain (w:=44 :: lineL st (o + 1)) (w2:=x.2 ++ (gap ++ more)) (G:=fun _ => rAt (item nth) (fun a => rAt (rSkips isWs) fun _ => rAt (rItemsF en item n (nth + 1)) fun l => rPure (a :: l))) (a:=()) hsh2 ?_ hrest
   exact rAt_chain (w:=[44]) (w2:=lineL st (o + 1)) (a:=()) (Shift.skips _) (need_one (by decide)) (skips_ws (lineL_ws _ _) (fun e he => (show c = e by rw [hx2] at he; simpa using he) ▸ hcw))
end Go.Proofs.YtkigpbkkhgabeaaGreatDoor
