import Derived.Test.YtkigpbkkhgabeaaGreatDoorYRloc
import Derived.Test.YtkigpbkkhgabeaaGreatDoorYDpar
import Derived.Test.YtkigpbkkhgabeaaGreatDoorYVcm
import Derived.Test.YtkigpbkkhgabeaaGreatDoorYDbm
import Derived.Lib.ItoaLen
import Derived.Test.YtkigpbkkhgabeaaGreatDoorYDa
import Derived.Test.YtkigpbkkhgabeaaGreatDoorYUcheck
import Derived.Laws.AppendOwnNone
import Derived.Maps.OwnIn
import Derived.Maps.AppendAt
import Derived.Laws.BytesArg
import Derived.WalkSpells
import Derived.WalkLawsBesides
import Derived.Deep.Draws
import Derived.BigRegion
import Derived.Deep.RegionWith
set_option linter.unusedVariables false
set_option linter.unusedSimpArgs false
namespace Go.Proofs.YtkigpbkkhgabeaaGreatDoor
open Go.Lib
def RR.shift {α : Type} (n : Nat) : RR α → RR α
 | .ok a q => .ok a (n + q)
 | .bad q e => .bad (n + q) e
def Shift {α : Type} (F : Nat → Rd1 α) : Prop:=∀ (m : Nat) (w b : List UInt8) (p : Nat),F (w.length + m) (w ++ b) (w.length + p) = (F m b p).shift w.length
theorem get_shift (w b : List UInt8) (p : Nat) : (w ++ b)[w.length + p]? = b[p]?:=by
 rw [List.getElem?_append_right (by omega),Nat.add_sub_cancel_left]
theorem drop_shift (w b : List UInt8) (p : Nat) : (w ++ b).drop (w.length + p) = b.drop p:=by
 rw [List.drop_append,List.drop_eq_nil_of_le (by omega),Nat.add_sub_cancel_left,List.nil_append]
theorem Shift.pure {α : Type} (a : α) : Shift (fun _ => rPure a):=fun _ _ _ _ => rfl
theorem Shift.fail {α : Type} (e : Nat) : Shift (fun _ => (rFail e : Rd1 α)):=fun _ _ _ _ => rfl
theorem Shift.stop {α : Type} : Shift (fun m => (fun _ _ => .bad m 33 : Rd1 α)):=fun _ _ _ _ => rfl
theorem Shift.must (is : Bool) : Shift (fun m => rMust m is):=fun _ _ _ _ => by cases is <;> rfl
theorem Shift.at {α β : Type} {F : Nat → Rd1 α} {G : Nat → α → Rd1 β} (hF : Shift F) (hG : ∀ a,Shift (fun m => G m a)) : Shift (fun m => rAt (F m) (G m)):=fun m w b p => by
 show ((F (w.length + m)) (w ++ b) (w.length + p)).bind _ = ((F m b p).bind _).shift _
 rw [hF m w b p]
 cases F m b p with
 | ok a q => exact hG a m w b q
 | bad q e => rfl
theorem Shift.over {α : Type} {G : Nat → Rd1 α} (hG : Shift G) : Shift (fun m => fun b p => G m b (p + 1)):=fun m w b p => hG m w b (p + 1)
theorem Shift.ite {α : Type} {c : Prop} [Decidable c] {F G : Nat → Rd1 α} (hF : Shift F) (hG : Shift G) : Shift (fun m => if c then F m else G m):=by
 by_cases h : c
 ·simp only [if_pos h]; exact hF
 ·simp only [if_neg h]; exact hG
theorem Shift.peek : Shift (fun _ => rPeek):=fun m w b p => by
 unfold rPeek
 simp only []
 rw [get_shift]
 cases b[p]? <;> rfl
theorem Shift.need (f : UInt8 → Bool) : Shift (fun _ => rNeed f):=fun m w b p => by
 unfold rNeed
 simp only []
 rw [get_shift]
 cases b[p]? with
 | none => rfl
 | some c => simp only; split <;> rfl
theorem Shift.skip (f : UInt8 → Bool) : Shift (fun _ => rSkip f):=fun m w b p => by
 unfold rSkip
 simp only []
 rw [get_shift]
 cases b[p]? with
 | none => rfl
 | some c => simp only; split <;> rfl
theorem Shift.skips (f : UInt8 → Bool) : Shift (fun _ => rSkips f):=fun m w b p => by
 unfold rSkips
 simp only []
 rw [drop_shift]
 simp only [RR.shift,Nat.add_assoc]
theorem Shift.apart : Shift (fun _ => rApart):=fun m w b p => by
 unfold rApart
 simp only []
 rw [get_shift]
 cases b[p]? with
 | none => rfl
 | some c => simp only; split <;> rfl
theorem Shift.word : ∀ l,Shift (fun _ => rWord l)
 | [] => Shift.apart
 | c :: r => Shift.at (G:=fun _ _ => rWord r) (Shift.need _) fun _ => Shift.word r
theorem Shift.digits : Shift (fun _ => rDigits):=Shift.at (G:=fun _ _ => rSkips isDg) (Shift.need _) fun _ => Shift.skips _
theorem Shift.numeral : Shift (fun _ => rNumeral):=by
 unfold rNumeral
 refine Shift.at (G:=fun _ _ => _) (Shift.skip _) fun _ => ?_
 refine Shift.at (G:=fun _ _ => _) (Shift.skip _) fun z => ?_
 refine Shift.at (G:=fun _ _ => _) (Shift.ite (F:=fun _ => _) (G:=fun _ => _) (Shift.pure _) Shift.digits) fun _ => ?_
 refine Shift.at (G:=fun _ _ => _) (Shift.skip _) fun f => ?_
 refine Shift.at (G:=fun _ _ => _) (Shift.ite (F:=fun _ => _) (G:=fun _ => _) Shift.digits (Shift.pure _)) fun _ => ?_
 refine Shift.at (G:=fun _ _ => _) (Shift.skip _) fun e => ?_
 exact Shift.ite (F:=fun _ => _) (G:=fun _ => _) (Shift.at (G:=fun _ _ => _) (Shift.skip _) fun _ => Shift.digits) (Shift.pure _)
theorem cut_shift (w b : List UInt8) (p q : Nat) : cutN (w ++ b) (w.length + p) (w.length + q) = cutN b p q:=by
 unfold cutN
 rw [drop_shift,show w.length + q - (w.length + p) = q - p by omega]
theorem Shift.number : Shift (fun _ => rNumber):=fun m w b p => by
 unfold rNumber
 simp only []
 have hn : rNumeral (w ++ b) (w.length + p) = (rNumeral b p).shift w.length:=Shift.numeral m w b p
 rw [hn]
 cases rNumeral b p with
 | bad q e => rfl
 | ok a q =>
  simp only [RR.shift,RR.bind]
  rw [cut_shift]
  split
  ·have ha : rApart (w ++ b) (w.length + q) = (rApart b q).shift w.length:=Shift.apart m w b q
   rw [ha]
   cases rApart b q with
   | ok a2 q2 => rfl
   | bad q2 e2 => rfl
  ·rfl
theorem Shift.hex : ∀ k n,Shift (fun _ => rHex k n)
 | 0,n => Shift.pure n
 | k + 1,n => by
  unfold rHex
  refine Shift.at (G:=fun _ c => _) Shift.peek fun c => ?_
  cases hexOf c with
  | none => exact Shift.fail 33
  | some d => exact Shift.over (G:=fun _ => rHex k (n * 16 + d)) (Shift.hex k _)
theorem Shift.low : Shift rLow:=by
 unfold rLow
 refine Shift.at (G:=fun m c => _) Shift.peek fun c => Shift.at (G:=fun m _ => _) (Shift.must _) fun _ => Shift.over (G:=fun m => rAt rPeek fun d => rAt (rMust m (d == 117)) fun _ => fun b p => _) ?_
 refine Shift.at (G:=fun m c => _) Shift.peek fun d => Shift.at (G:=fun m _ => _) (Shift.must _) fun _ => Shift.over (G:=fun m => rAt (rHex 1 0) fun x => _) ?_
 refine Shift.at (G:=fun m x => _) (Shift.hex 1 0) fun x => Shift.at (G:=fun m _ => _) (Shift.must _) fun _ => Shift.at (G:=fun m y => _) (Shift.hex 1 0) fun y => Shift.at (G:=fun m _ => _) (Shift.must _) fun _ => Shift.at (G:=fun m z => _) (Shift.hex 2 0) fun z => Shift.pure _
theorem Shift.coded : Shift rCoded:=by
 unfold rCoded
 exact Shift.at (G:=fun m n => _) (Shift.hex 4 0) fun n => Shift.ite (F:=fun _ => _) (G:=fun m => _) (Shift.pure _) (Shift.ite (F:=fun m => _) (G:=fun m => _) Shift.stop (Shift.at (G:=fun m z => _) Shift.low fun z => Shift.pure _))
theorem Shift.escape : Shift (fun _ => rEscape):=fun m w b p => by
 have key : Shift (fun m => rAt rPeek fun c => if c == 117 then fun b q => rCoded m b (q + 1) else match escOf c with
  | some x => fun _ q => .ok x (q + 1)
  | none => fun _ _ => .bad m 33):=Shift.at (G:=fun m c => _) Shift.peek fun c => Shift.ite (F:=fun m => _) (G:=fun m => _) (Shift.over (G:=rCoded) Shift.coded) (by
   cases escOf c with
   | none => exact Shift.stop
   | some x => exact Shift.over (G:=fun _ => rPure x) (Shift.pure x))
 exact key p w b (p + 1)
theorem Shift.char : Shift (fun _ => rChar):=by
 unfold rChar
 refine Shift.at (G:=fun _ c => _) Shift.peek fun c => Shift.ite (F:=fun _ => _) (G:=fun _ => _) Shift.escape (Shift.ite (F:=fun _ => _) (G:=fun _ => _) (Shift.fail 33) fun m w b p => ?_)
 simp only [drop_shift]
 split
 ·split
  ·rfl
  ·simp only [RR.shift,Nat.add_assoc]
 ·simp only [RR.shift,List.length_append]
theorem Shift.chars : ∀ n acc,Shift (fun _ => rChars n acc)
 | 0,acc => Shift.fail 8
 | n + 1,acc => by
  unfold rChars
  exact Shift.at (G:=fun _ c => _) Shift.peek fun c => Shift.ite (F:=fun _ => _) (G:=fun _ => _) (Shift.over (G:=fun _ => rPure acc) (Shift.pure acc)) (Shift.at (G:=fun _ x => _) Shift.char fun x => Shift.chars n _)
theorem Shift.text : Shift (fun _ => rText):=fun m w b p => by
 unfold rText
 simp only []
 have hc : rChars fuelR [] (w ++ b) (w.length + (p + 1)) = (rChars fuelR [] b (p + 1)).shift w.length:=Shift.chars fuelR [] m w b (p + 1)
 rw [show w.length + p + 1 = w.length + (p + 1) by omega,hc]
 cases rChars fuelR [] b (p + 1) with
 | ok t q => simp only [RR.shift,RR.bind]; split <;> rfl
 | bad q e => rfl
theorem Shift.itemsF {α : Type} {end_ : UInt8} {item : Nat → Rd1 α} (hi : ∀ nth,Shift (fun _ => item nth)) : ∀ n nth,Shift (fun _ => rItemsF end_ item n nth)
 | 0,nth => Shift.fail 8
 | n + 1,nth => by
  unfold rItemsF
  refine Shift.at (G:=fun _ c => _) Shift.peek fun c => Shift.ite (F:=fun _ => _) (G:=fun _ => _) (Shift.over (G:=fun _ => rPure []) (Shift.pure [])) ?_
  refine Shift.at (F:=fun _ => _) (G:=fun _ _ => _) (Shift.ite (F:=fun _ => _) (G:=fun _ => _) (Shift.at (G:=fun _ _ => _) (Shift.need _) fun _ => Shift.skips _) (Shift.pure _)) fun _ => ?_
  exact Shift.at (G:=fun _ _ => _) (hi nth) fun a => Shift.at (G:=fun _ _ => _) (Shift.skips _) fun _ => Shift.at (G:=fun _ _ => _) (Shift.itemsF hi n (nth + 1)) fun l => Shift.pure _
theorem Shift.items {α : Type} {end_ : UInt8} {item : Nat → Rd1 α} (hi : ∀ nth,Shift (fun _ => item nth)) : Shift (fun _ => rItems end_ item) :=
 Shift.over (G:=fun _ => rAt (rSkips isWs) fun _ => rItemsF end_ item fuelR 1) (Shift.at (G:=fun _ _ => _) (Shift.skips _) fun _ => Shift.itemsF hi fuelR 1)
theorem Shift.held {α : Type} {F : Rd1 α} (hF : Shift (fun _ => F)) (mk : α → VT) : Shift (fun _ => fun b p => (F b p).bind fun l q => rHeld p (mk l) b q):=fun m w b p => by
 show (F (w ++ b) (w.length + p)).bind _ = ((F b p).bind _).shift _
 have hf : F (w ++ b) (w.length + p) = (F b p).shift w.length:=hF m w b p
 rw [hf]
 cases F b p with
 | ok l q => simp only [RR.shift,RR.bind,rHeld]; split <;> rfl
 | bad q e => rfl
theorem Shift.begin (k nth : Nat) : Shift (fun _ => rBegin k nth):=by
 unfold rBegin
 exact Shift.at (G:=fun _ c => _) Shift.peek fun c => Shift.ite (F:=fun _ => _) (G:=fun _ => _) (Shift.fail _) (Shift.ite (F:=fun _ => _) (G:=fun _ => _) (Shift.fail _) (Shift.ite (F:=fun _ => _) (G:=fun _ => _) (Shift.fail _) (Shift.pure _)))
theorem Shift.key (nth : Nat) : Shift (fun _ => rKey nth):=by
 unfold rKey
 exact Shift.at (G:=fun _ c => _) Shift.peek fun c => Shift.ite (F:=fun _ => _) (G:=fun _ => _) (Shift.ite (F:=fun _ => _) (G:=fun _ => _) (Shift.fail _) Shift.text) (Shift.fail _)
theorem Shift.value (mk : List (ByteArray × VT) → VT) : ∀ k nth,Shift (fun _ => rValue mk k nth)
 | 0,nth => by
  unfold rValue
  exact Shift.at (G:=fun _ _ => _) (Shift.begin 0 nth) fun _ => Shift.at (G:=fun _ c => _) Shift.peek fun c => Shift.ite (F:=fun _ => _) (G:=fun _ => _) (Shift.at (G:=fun _ _ => _) Shift.text fun t => Shift.pure _) (Shift.ite (F:=fun _ => _) (G:=fun _ => _) (Shift.at (G:=fun _ _ => _) (Shift.word _) fun _ => Shift.pure _) (Shift.ite (F:=fun _ => _) (G:=fun _ => _) (Shift.at (G:=fun _ _ => _) (Shift.word _) fun _ => Shift.pure _) (Shift.ite (F:=fun _ => _) (G:=fun _ => _) (Shift.at (G:=fun _ _ => _) (Shift.word _) fun _ => Shift.pure _) Shift.number)))
 | k + 1,nth => by
  have ih:=Shift.value mk k
  have hpair : ∀ n,Shift (fun _ => rAt (rKey n) fun key => rAt (rSkips isWs) fun _ => rAt (rNeed (· == 58)) fun _ => rAt (rSkips isWs) fun _ => rAt (rValue mk k n) fun v => rPure (key,v)):=fun n =>
   Shift.at (G:=fun _ _ => _) (Shift.key n) fun key => Shift.at (G:=fun _ _ => _) (Shift.skips _) fun _ => Shift.at (G:=fun _ _ => _) (Shift.need _) fun _ => Shift.at (G:=fun _ _ => _) (Shift.skips _) fun _ => Shift.at (G:=fun _ _ => _) (ih n) fun v => Shift.pure _
  unfold rValue
  exact Shift.at (G:=fun _ _ => _) (Shift.begin (k + 1) nth) fun _ => Shift.at (G:=fun _ c => _) Shift.peek fun c => Shift.ite (F:=fun _ => _) (G:=fun _ => _) (Shift.held (Shift.items ih) _) (Shift.ite (F:=fun _ => _) (G:=fun _ => _) (Shift.held (Shift.items hpair) _) (Shift.ite (F:=fun _ => _) (G:=fun _ => _) (Shift.at (G:=fun _ _ => _) Shift.text fun t => Shift.pure _) (Shift.ite (F:=fun _ => _) (G:=fun _ => _) (Shift.at (G:=fun _ _ => _) (Shift.word _) fun _ => Shift.pure _) (Shift.ite (F:=fun _ => _) (G:=fun _ => _) (Shift.at (G:=fun _ _ => _) (Shift.word _) fun _ => Shift.pure _) (Shift.ite (F:=fun _ => _) (G:=fun _ => _) (Shift.at (G:=fun _ _ => _) (Shift.word _) fun _ => Shift.pure _) Shift.number)))))
end Go.Proofs.YtkigpbkkhgabeaaGreatDoor
namespace Go.Proofs.YtkigpbkkhgabeaaGreatDoor
open Go.Lib
theorem part_ok {l : List UInt8} (h : partOf l ≠ -1) : ¬ ((decodeL l).1 = 65533 ∧ (decodeL l).2 = 1):=fun e => h (by unfold partOf; rw [if_pos e])
theorem full_part {l : List UInt8} (hl : l ≠ []) (h : partOf l ≠ -1) : fullL l = true:=by
 have hv:=part_ok h
 cases l with
 | nil => exact absurd rfl hl
 | cons a t =>
  have e194 : a < 194 ↔ a.toNat < 194:=u8_lt a 194 (by omega)
  have e244 : 244 < a ↔ 244 < a.toNat:=u8_gt a 244 (by omega)
  have e224 : a < 224 ↔ a.toNat < 224:=u8_lt a 224 (by omega)
  have e240 : a < 240 ↔ a.toNat < 240:=u8_lt a 240 (by omega)
  have k0:=a.toNat_lt
  rw [decodeL_N] at hv
  have g0 : (a :: t).getD 0 0 = a:=rfl
  rw [g0] at hv
  unfold fullL
  simp only [e194,e244,e224,e240]
  by_cases c1 : a.toNat < 194 ∨ 244 < a.toNat
  ·rw [if_pos c1]
  ·rw [if_neg c1]
   have hlen : (a :: t).length = t.length + 1:=List.length_cons
   have c2 : (if a.toNat < 224 then 1 else if a.toNat < 240 then 2 else 3) ≤ t.length:=by
    rcases decodeN_shape (a :: t).length a.toNat ((a :: t).getD 1 0).toNat ((a :: t).getD 2 0).toNat ((a :: t).getD 3 0).toNat with ⟨c,e⟩ | ⟨d1,d2,d3,dv,e⟩ | ⟨d1,d2,d3,d4,dv,ds,e⟩ | ⟨d1,d2,d3,d4,d5,dv,dw,e⟩ | e
    ·omega
    ·split
     ·omega
     ·split <;> omega
    ·split
     ·omega
     ·split <;> omega
    ·split
     ·omega
     ·split <;> omega
    ·rw [e] at hv; exact absurd ⟨rfl,rfl⟩ hv
   rw [if_pos c2]
end Go.Proofs.YtkigpbkkhgabeaaGreatDoor
namespace Go.Proofs.YtkigpbkkhgabeaaGreatDoor
open Go.Lib
theorem dg_N (c : UInt8) : isDig c.toNat = isDg c:=by
 have h1 : (48 ≤ c) ↔ 48 ≤ c.toNat:=by rw [UInt8.le_iff_toNat_le]; rfl
 have h2 : (c ≤ 57) ↔ c.toNat ≤ 57:=by rw [UInt8.le_iff_toNat_le]; rfl
 unfold isDig isDg
 rw [Bool.eq_iff_iff]
 simp only [decide_eq_true_eq,Bool.and_eq_true,h1,h2]
theorem skip_got {f : UInt8 → Bool} {b : List UInt8} {p q : Nat} {z : Bool} (h : rSkip f b p = .ok z q) : (z = true ∧ q = p + 1 ∧ ∃ c,b[p]? = some c ∧ f c = true) ∨ (z = false ∧ q = p ∧ ∀ c,b[p]? = some c → f c = false):=by
 unfold rSkip at h
 cases hb : b[p]? with
 | none =>
  rw [hb] at h
  injection h with h1 h2
  exact .inr ⟨h1.symm,h2.symm,fun c e => by cases e⟩
 | some c =>
  rw [hb] at h
  simp only at h
  split at h
  ·rename_i hf
   injection h with h1 h2
   exact .inl ⟨h1.symm,h2.symm,c,rfl,hf⟩
  ·rename_i hf
   injection h with h1 h2
   exact .inr ⟨h1.symm,h2.symm,fun d e => by injection e with e; subst e; simpa using hf⟩
theorem digits_got {b : List UInt8} {p q : Nat} (h : rDigits b p = .ok () q) : ∃ c,b[p]? = some c ∧ isDg c = true ∧ q = p + ((b.drop p).takeWhile isDg).length ∧ p < q:=by
 unfold rDigits rAt rNeed at h
 cases hb : b[p]? with
 | none => rw [hb] at h; cases h
 | some c =>
  rw [hb] at h
  simp only at h
  split at h
  ·rename_i hf
   simp only [RR.bind] at h
   unfold rSkips at h
   injection h with _ h2
   refine ⟨c,rfl,hf,?_,by omega⟩
   have hl : p < b.length:=by
    rcases Nat.lt_or_ge p b.length with hl | hl
    ·exact hl
    ·rw [List.getElem?_eq_none hl] at hb; cases hb
   have hc : b[p] = c:=by rw [List.getElem?_eq_getElem hl] at hb; injection hb
   rw [List.drop_eq_getElem_cons hl,hc,List.takeWhile_cons_of_pos hf,List.length_cons]
   omega
  ·cases h
theorem bind_ok {α β : Type} {F : Rd1 α} {G : α → Rd1 β} {b : List UInt8} {p q : Nat} {a : β} (h : rAt F G b p = .ok a q) : ∃ x r,F b p = .ok x r ∧ G x b r = .ok a q:=by
 unfold rAt at h
 cases hf : F b p with
 | bad q1 e => rw [hf] at h; cases h
 | ok x r => rw [hf] at h; exact ⟨x,r,rfl,h⟩
end Go.Proofs.YtkigpbkkhgabeaaGreatDoor
namespace Go.Proofs.YtkigpbkkhgabeaaGreatDoor
open Go.RowKit
theorem allDig_app2 {a b : List Nat} (ha : allDig a = true) (hb : allDig b = true) : allDig (a ++ b) = true:=by
 unfold allDig at ha hb ⊢
 rw [List.all_append,ha,hb]; rfl
theorem lz_le3 (ds : List Nat) : lz ds ≤ ds.length:=lz_le ds
theorem f_may2 {T : List Nat} (h : fE T = 0) : okB (fN T) (fZ T) (fX T) = true:=by
 unfold fE at h
 by_cases hg : fGood T
 ·unfold fN fZ fX
  rw [if_pos hg] at h ⊢
  rw [if_pos hg,if_pos hg]
  by_cases hb : 1000000 ≤ (tPow T).2
  ·obtain ⟨g1,_⟩:=g_big hb
   rw [g1] at h
   exact absurd h (by omega)
  ·obtain ⟨g1,g2,g3,g4⟩:=g_small (xs:=T) (by omega)
   rw [g1] at h
   rw [g2,g3,g4]
   obtain ⟨sg,wh,fr,pw,hP⟩:=form_parts hg.1
   obtain ⟨f,hfa,hf2,hm1,hm2⟩:=mfold_parts hP
   have hcut : cutE T = sg ++ (wh ++ fr):=by
    have he:=hP.eq
    rcases hP.pw with e | ⟨x,s,p,e1,he2,_⟩
    ·rw [e] at he
     rw [he]
     have:=cutE_plain (mant_octs hP)
     simpa using this
    ·rw [e1] at he
     have:=cutE_at (mant_octs hP) he2 (s ++ p)
     rw [he]
     simpa using this
   have hl : wh.length + f.length ≤ T.length:=by
    have:=congrArg List.length hP.eq
    simp only [List.length_append] at this
    rcases hf2 with ⟨_,e⟩ | e
    ·rw [e]; simp; omega
    ·rw [e,List.length_cons] at this; omega
   obtain ⟨K,hK⟩ : ∃ K : Nat,K = 2000:=⟨_,rfl⟩
   have hv : tVal T < 10 ^ K:=by
    have e : tVal T = pnum (wh ++ f):=by
     unfold tVal tMan
     rw [hcut,hm1]
     exact dval_pnum _
    rw [e]
    have h1:=pnum_lt (allDig_app2 hP.wh.1 hfa)
    have h2 : 10 ^ (wh ++ f).length ≤ 10 ^ K:=Nat.pow_le_pow_right (by omega) (by rw [List.length_append,hK]; have:=hg.2; omega)
    omega
   by_cases hz : tVal T = 0
   ·obtain ⟨z1,z2,z3,z4⟩:=st_zero (tNeg T) (tExp T)
    rw [hz,z2,z3,z4]; decide
   ·have hlo : -5000 ≤ tExp T:=by
     have hd : (dOf (tVal T)).length ≤ K:=by
      obtain ⟨d1,d2⟩:=dgOf_ok (tVal T) (tVal T) (Nat.le_refl _)
      refine DCan.len_le (ds:=dOf (tVal T)) d1 ?_
      have e : dval (dOf (tVal T)) = tVal T:=d2
      rw [e]; exact hv
     have hz2 : lz (dOf (tVal T)) ≤ (dOf (tVal T)).length:=lz_le3 _
     unfold stE at h
     rw [if_neg hz] at h
     by_cases c1 : 300 < (cf (tVal T)).length
     ·rw [if_pos c1] at h; omega
     ·rw [if_neg c1] at h
      by_cases c2 : -1000 ≤ tExp T + (lz (dOf (tVal T)) : Int) ∧ tExp T + (lz (dOf (tVal T)) : Int) ≤ 1000
      ·omega
      ·rw [if_neg c2] at h; omega
    exact (settle_may hlo h).1
 ·rw [if_neg hg] at h
  split at h <;> exact absurd h (by omega)
end Go.Proofs.YtkigpbkkhgabeaaGreatDoor
namespace Go.Proofs.YtkigpbkkhgabeaaGreatDoor
open Go.Lib
theorem keysL_lt (ks : List ByteArray) : (keysL ks).Pairwise (· < ·):=by
 have tr : ∀ a b c : List UInt8,leB a b = true → leB b c = true → leB a c = true:=fun a b c h1 h2 => by simp only [leB,decide_eq_true_eq] at *; exact List.le_trans h1 h2
 have tot : ∀ a b : List UInt8,(leB a b || leB b a) = true:=fun a b => by simp only [leB,Bool.or_eq_true,decide_eq_true_eq]; exact List.le_total a b
 have h1 : (keysL ks).Pairwise (fun a b => leB a b = true):=List.pairwise_mergeSort tr tot _
 have h2 : (keysL ks).Nodup:=(List.mergeSort_perm _ _).nodup_iff.2 (lastD_nodup ks ks.length)
 refine (h1.and h2).imp fun {a b} h => ?_
 have h3 : a ≤ b:=by simpa [leB] using h.1
 rcases List.le_iff_lt_or_eq.1 h3 with h4 | h4
 ·exact h4
 ·exact absurd h4 h.2
theorem keysB_rises (ks : List ByteArray) : rises (keysB ks) = true:=by
 rw [rises_iff]
 intro j a b hj ha hb
 unfold keysB at ha hb hj
 rw [List.length_map] at hj
 rw [List.getElem?_map,List.getElem?_eq_getElem (by omega)] at ha hb
 injection ha with ha
 injection hb with hb
 subst ha hb
 rw [bytesLess_eq]
 rw [ByteArray.toList_eq,ByteArray.toList_eq]
 exact decide_eq_true (List.pairwise_iff_getElem.1 (keysL_lt ks) j (j + 1) (by omega) (by omega) (by omega))
theorem lastAt_mem {ks : List ByteArray} {s : ByteArray} {i : Nat} (h : lastAt ks s ks.length = some i) : i < ks.length ∧ s ∈ ks:=by
 obtain ⟨h1,h2,_⟩:=lastAt_some h
 refine ⟨h1,?_⟩
 rw [← h2,List.getD_eq_getElem?_getD,List.getElem?_eq_getElem h1]
 exact List.getElem_mem h1
theorem keysB_in {ks : List ByteArray} {s : ByteArray} (h : s ∈ keysB ks) : s ∈ ks:=by
 have h1:=keysB_mem.1 h
 cases h2 : lastAt ks s ks.length with
 | none => rw [h2] at h1; cases h1
 | some i => exact (lastAt_mem h2).2
def mkObj (l : List (ByteArray × VT)) : VT:=objV (l.map (·.1)) (l.map (·.2))
end Go.Proofs.YtkigpbkkhgabeaaGreatDoor
namespace Go.Proofs.YtkigpbkkhgabeaaGreatDoor
open Go.RowKit
theorem ResB.one (w : World) (x : Nat) (hx : x < 256) : ResB (w.alloc (.cells #[.int .u8 (x : Int)] 5)) w.heap.size (some ⟨w.heap.size,0,none⟩) 1 1 [x]:=by
 refine ⟨rfl,L8.one hx,?_⟩
 have h:=World.ownsRow_lit (base:=w.heap.size) (e:=5) (size:=1) w #[.int .u8 (x : Int)] 1 (Nat.le_refl _) (by unfold maxLen; omega) (by simp)
 show World.ownsRow _ _ _ _ _ _ [Value.int .u8 (x : Int)]
 simpa using h
end Go.Proofs.YtkigpbkkhgabeaaGreatDoor
namespace Go.Proofs.YtkigpbkkhgabeaaGreatDoor
open Go.RowKit Go.Lib
structure RowV (w : World) (base : Nat) (t : TypeId) (A : Option Addr) (n c : Nat) (vs : List Value) : Prop where
 len : vs.length = n
 own : w.ownsRow base t 1 (.slice A n c) n vs
structure RdV (w : World) (S : Nat → Prop) (A : Option Addr) (n : Nat) (vs : List Value) : Prop where
 len : vs.length = n
 cells : 0 < n → ∃ b off,A = some ⟨b,off,none⟩ ∧ S b ∧ ∀ (j : Nat) v,vs[j]? = some v → w.cell? ⟨b,off + j,none⟩ = some v
section
variable {w w' : World} {base n c : Nat} {t : TypeId} {A : Option Addr} {vs : List Value} {S S' : Nat → Prop}
theorem RowV.nil (w : World) (base : Nat) (t : TypeId) : RowV w base t none 0 0 []:=⟨rfl,World.ownsRow_nil w base _ 1⟩
theorem RowV.form (h : RowV w base t A n c vs) : (A = none ∧ n = 0 ∧ c = 0) ∨ ∃ g,A = some ⟨g,0,none⟩ ∧ base ≤ g ∧ g < w.heap.size:=by
 rcases h.own.2 with ⟨e,h0⟩ | ⟨g,cap,cur,e,hb,hh,_⟩
 ·injection e with e1 e2 e3; exact .inl ⟨e1,e2,e3⟩
 ·injection e with e1 e2 e3; exact .inr ⟨g,e1,hb,(Array.getElem?_eq_some_iff.1 hh).1⟩
theorem RowV.n_le (h : RowV w base t A n c vs) : n ≤ c ∧ c ≤ maxLen:=by
 rcases h.own.2 with ⟨e,h0⟩ | ⟨g,cap,cur,e,hb,hh,h1,h2,_⟩
 ·injection e with e1 e2 e3; subst e3; exact ⟨by omega,Nat.zero_le _⟩
 ·injection e with e1 e2 e3; subst e3; exact ⟨h1,h2⟩
theorem RowV.more {base' : Nat} (h : RowV w base t A n c vs) (hb : base' ≤ base) : RowV w base' t A n c vs:=by
 refine ⟨h.len,h.own.1,?_⟩
 rcases h.own.2 with h0 | ⟨g,cap,cur,e,hb',rest⟩
 ·exact .inl h0
 ·exact .inr ⟨g,cap,cur,e,by omega,rest⟩
theorem RowV.keep (h : RowV w base t A n c vs) (hk : ∀ g,A = some ⟨g,0,none⟩ → w'.heap[g]? = w.heap[g]?) : RowV w' base t A n c vs:=by
 refine ⟨h.len,h.own.1,?_⟩
 rcases h.own.2 with h0 | ⟨g,cap,cur,e,hb',hh,rest⟩
 ·exact .inl h0
 ·refine .inr ⟨g,cap,cur,e,hb',?_,rest⟩
  injection e with e1 e2 e3
  rw [hk g e1]; exact hh
theorem RowV.below {B : Nat} (h : RowV w base t A n c vs) (hb : Below B w w') (hB : w.heap.size ≤ B) : RowV w' base t A n c vs :=
 h.keep fun g e => by
  rcases h.form with ⟨h0,_⟩ | ⟨g',e',_,hlt⟩
  ·rw [h0] at e; cases e
  ·rw [e'] at e; injection e with e; injection e with e; subst e; exact hb.block g' (by omega)
theorem RowV.grown {row : Option Nat} (h : RowV w base t A n c vs) (hg : w.grownBy w' row) (hr : ∀ g,A = some ⟨g,0,none⟩ → some g ≠ row) : RowV w' base t A n c vs :=
 h.keep fun g e => by
  rcases h.form with ⟨h0,_⟩ | ⟨g',e',_,hlt⟩
  ·rw [h0] at e; cases e
  ·have : g' = g:=by rw [e'] at e; injection e with e; injection e
   subst this; exact hg.block g' hlt (hr _ e)
theorem RowV.of_row {v : Value} {xs : List Value} (hl : xs.length = n) (h : w.ownsRow base t 1 v n xs) : ∃ A c,v = .slice A n c ∧ RowV w base t A n c xs:=by
 rcases h.2 with ⟨e,h0⟩ | ⟨g,cap,cur,e,_⟩
 ·subst h0
  exact ⟨none,0,e,hl,e ▸ h⟩
 ·exact ⟨_,cap,e,hl,e ▸ h⟩
theorem RowV.drew (h : RowV w base t A n c vs) : RowV w.drew base t A n c vs:=h.keep fun _ _ => rfl
theorem RowV.alloc (h : RowV w base t A n c vs) (o : Obj) : RowV (w.alloc o) base t A n c vs:=h.below ((Below.refl w.heap.size w).alloc (Nat.le_refl _) o) (Nat.le_refl _)
theorem RowV.rd (h : RowV w base t A n c vs) : RdV w (fun b => base ≤ b ∧ b < w.heap.size) A n vs:=by
 refine ⟨h.len,fun hn => ?_⟩
 rcases h.form with ⟨_,h0,_⟩ | ⟨g,rfl,hb,hlt⟩
 ·omega
 ·refine ⟨g,0,rfl,⟨hb,hlt⟩,fun j v hv => ?_⟩
  have hj:=(List.getElem?_eq_some_iff.1 hv).1
  rw [h.len] at hj
  rw [Nat.zero_add,h.own.cellAt j (by omega),hv]
theorem RdV.keep (h : RdV w S A n vs) (hk : ∀ p : Addr,S p.block → w'.cell? p = w.cell? p) : RdV w' S A n vs :=
 ⟨h.len,fun hn => by
  obtain ⟨b,off,e,hb,hc⟩:=h.cells hn
  exact ⟨b,off,e,hb,fun j v hv => (hk _ hb).trans (hc j v hv)⟩⟩
theorem RdV.more (h : RdV w S A n vs) (hS : ∀ b,S b → S' b) : RdV w S' A n vs :=
 ⟨h.len,fun hn => by
  obtain ⟨b,off,e,hb,hc⟩:=h.cells hn
  exact ⟨b,off,e,hS b hb,hc⟩⟩
theorem RdV.drew (h : RdV w S A n vs) : RdV w.drew S A n vs:=h.keep fun _ _ => rfl
theorem RdV.below {B : Nat} (h : RdV w S A n vs) (hb : Below B w w') (hS : ∀ b,S b → b < B) : RdV w' S A n vs:=h.keep fun _ hp => hb.cell (hS _ hp)
theorem RdV.grown {row : Option Nat} (h : RdV w S A n vs) (hg : w.grownBy w' row) (hr : ∀ b,S b → b < w.heap.size ∧ some b ≠ row) : RdV w' S A n vs :=
 h.keep fun p hp => World.cell?_of_block (hg.block p.block (hr _ hp).1 (hr _ hp).2)
theorem RdV.at_ {k : Nat} {v : Value} (h : RdV w S A n vs) (hv : vs[k]? = some v) : ∃ b off,A = some ⟨b,off,none⟩ ∧ S b ∧ w.cell? ⟨b,off + k,none⟩ = some v:=by
 have hk:=(List.getElem?_eq_some_iff.1 hv).1
 rw [h.len] at hk
 obtain ⟨b,off,e,hb,hc⟩:=h.cells (by omega)
 exact ⟨b,off,e,hb,hc k v hv⟩
theorem RdV.nil (w : World) (S : Nat → Prop) (A : Option Addr) : RdV w S A 0 []:=⟨rfl,fun h => absurd h (by omega)⟩
theorem RdV.cellsAt {ad : Addr} (h : RdV w S (some ad) n vs) : ∀ (j : Nat) u,vs[j]? = some u → w.cell? (ad.add j) = some u:=by
 intro j u hu
 have hj:=(List.getElem?_eq_some_iff.1 hu).1
 rw [h.len] at hj
 obtain ⟨b,off,e,_,hc⟩:=h.cells (by omega)
 injection e with e
 subst e
 rw [Addr.add_lit]
 exact hc j u hu
theorem RowV.below_append {B k : Nat} {W w1 : World} {os : List Value} {o : Obj} (hbel : Below B W w) (hB : B ≤ w.heap.size) (hres : RowV w B t A k c os) (hg : (w.alloc o).grownBy w1 (Value.slice A k c).ownBlock) : Below B W w1 :=
 (hbel.alloc hB _).grown hg (by simp; omega) (by
  intro q hq
  rcases hres.form with ⟨h1,_⟩ | ⟨g1,h1,h2,_⟩
  ·rw [h1] at hq; simp [Value.ownBlock] at hq
  ·rw [h1] at hq; simp [Value.ownBlock] at hq; omega)
end
def bs8 (l : List UInt8) : List Value:=l.map fun b => Value.int .u8 (b.toNat : Int)
theorem bs8_length (l : List UInt8) : (bs8 l).length = l.length:=by simp [bs8]
theorem runeCells_bs8 (c : Int) : runeCells c = bs8 (encodeRune c):=by
 unfold runeCells bs8 encodeRune
 rw [List.map_map]
 refine List.map_congr_left fun x hx => ?_
 have:=encodeRuneZ_byte c x hx
 show Value.int .u8 x = Value.int .u8 _
 rw [toU8_toNat this.1 this.2]
 congr 1
 omega
end Go.Proofs.YtkigpbkkhgabeaaGreatDoor
namespace Go.Proofs.YtkigpbkkhgabeaaGreatDoor
open Go.RowKit Go.Lib
def wi (n p : Int) : Int:=min (max (if p < 0 then p + n else p) 0) n
end Go.Proofs.YtkigpbkkhgabeaaGreatDoor
namespace Go.Proofs.YtkigpbkkhgabeaaGreatDoor
open Go.RowKit Go.Lib
attribute [local go_sem] Oper.semAt_some
def roomI (n : Nat) : Obj:=.cells (madeCells #[.int IntKind.i64 0] n) 3
theorem RowV.room (w : World) (n : Nat) (h : n ≤ 4398046511104) : RowV (w.alloc (roomI n)) w.heap.size 3 (some ⟨w.heap.size,0,none⟩) 0 n []:=by
 refine ⟨rfl,?_⟩
 have:=World.ownsRow_lit (base:=w.heap.size) (e:=3) (size:=1) w (madeCells #[.int IntKind.i64 0] n) n (Nat.le_refl _) (by unfold maxLen; omega) (by rw [size_madeCells,Nat.mul_one])
 exact ⟨rfl,by
  rcases this.2 with ⟨e,h0⟩ | ⟨g,cap,cur,e,hb,hh,h1,h2,h3,h4⟩
  ·injection e with e1; cases e1
  ·injection e with e1 e2 e3
   exact .inr ⟨g,n,cur,by rw [e1],hb,hh,by omega,by omega,by rw [e3]; exact h3,by simp⟩⟩
end Go.Proofs.YtkigpbkkhgabeaaGreatDoor
namespace Go.Proofs.YtkigpbkkhgabeaaGreatDoor
open Go.RowKit Go.Lib
def mk8 (l : List UInt8) : ByteArray:=⟨l.toArray⟩
theorem mk8_L (l : List UInt8) : (mk8 l).data.toList = l:=rfl
theorem mk8_size (l : List UInt8) : (mk8 l).size = l.length:=by show l.toArray.size = _; simp
theorem mk8_of (s : ByteArray) : mk8 s.data.toList = s:=by cases s; simp [mk8]
end Go.Proofs.YtkigpbkkhgabeaaGreatDoor
namespace Go.Proofs.YtkigpbkkhgabeaaGreatDoor
open Go.RowKit Go.Lib
theorem RdV.conv {w : World} {S : Nat → Prop} {A : Option Addr} {n c : Nat} {l : List UInt8} (h : RdV w S A n (bs8 l)) : (convert 38 9 (.slice A n c)).run Tryz.prog w = .ok (.string (mk8 l)) w:=by
 have hl : l.length = n:=by rw [← h.len,bs8_length]
 cases A with
 | none =>
  have h0 : n = 0:=by
   rcases Nat.eq_zero_or_pos n with e | e
   ·exact e
   ·obtain ⟨b,off,e2,_⟩:=h.cells e; cases e2
  have hl0 : l = []:=List.eq_nil_of_length_eq_zero (by omega)
  have h1:=run_convert_bytes_nil (P:=Tryz.prog) w 38 5 Tryz.underlying38 Tryz.underlying5 n c 9 Tryz.underlying9
  rw [h1,hl0]; rfl
 | some ad =>
  have hm : bs8 l = (l.map fun x => (x.toNat : Int)).map (Value.int .u8):=by unfold bs8; rw [List.map_map]; rfl
  have hld : (loadCells ad n).run Tryz.prog w = .ok ((l.map fun x => (x.toNat : Int)).map (Value.int .u8)).toArray w:=by
   have:=run_loadCells_list (P:=Tryz.prog) w ad (bs8 l) (fun j v hj => h.cellsAt j v hj)
   rw [bs8_length,hl,hm] at this
   exact this
  rw [run_convert_bytes_string w 38 9 5 _ n c Tryz.underlying38 Tryz.underlying5 Tryz.underlying9,run_bytesToString w _ n c (l.map fun x => (x.toNat : Int)) hld,foldl_push_bytes]
  congr 1
  congr 1
  unfold mk8
  congr 1
  rw [List.map_map]
  show ByteArray.empty.data ++ _ = _
  have : (l.map ((fun n : Int => UInt8.ofNat n.toNat) ∘ fun x : UInt8 => (x.toNat : Int))) = l:=by
   conv => rhs; rw [← List.map_id l]
   refine List.map_congr_left fun x _ => ?_
   simp
  rw [this]
  simp
end Go.Proofs.YtkigpbkkhgabeaaGreatDoor
