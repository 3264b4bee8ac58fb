/-
  What a list or an object is printed as, entry by entry. Pure, no program.
  A region that draws its order in a round of a range over a function: it is walked as everywhere. Over any program.
-/
import Derived.Test.YtpbfdgjeocmikaaGreatDoorRWit
import Derived.OrdersIn
import Derived.OrdersHeld
set_option linter.unusedVariables false
set_option linter.unusedSimpArgs false
namespace Go.Proofs.YtpbfdgjeocmikaaGreatDoor
open Go.Lib

/-- An entry, printed. -/
def pcE (qc : Int → List UInt8) (nt : Bool → List Nat → Int → List UInt8) (st o : Nat) (k6 : Bool) (p : ByteArray × VT) : List UInt8 := (if k6 then keyL qc st p.1 else []) ++ prV qc nt st (o + 1) p.2
/-- An entry with what stands ahead of it. -/
def leadE (st o : Nat) (first : Bool) (out : List UInt8) : List UInt8 := (if first then [] else [44]) ++ (lineL st (o + 1) ++ out)
/-- Entries, one behind the other. -/
def seqE (st o : Nat) : Bool → List (List UInt8) → List UInt8
  | _, [] => []
  | f, x :: r => leadE st o f x ++ seqE st o false r
theorem seqE_snoc (st o : Nat) (x : List UInt8) : ∀ (l : List (List UInt8)) (f : Bool), seqE st o f (l ++ [x]) = seqE st o f l ++ leadE st o (f && l.isEmpty) x
  | [], f => by simp [seqE]
  | y :: l, f => by
    show leadE st o f y ++ seqE st o false (l ++ [x]) = _
    rw [seqE_snoc st o x l false]
    simp [seqE]
theorem itT_seq {α : Type} (st o : Nat) (en : UInt8) : ∀ (l : List (α × List UInt8)), itT st o en false l = seqE st o false (l.map (·.2)) ++ ((if l.isEmpty then [] else lineL st o) ++ [en])
  | [] => rfl
  | x :: r => by
    have ih := itT_seq st o en r
    unfold itT
    rw [ih, List.map_cons]
    cases r with
    | nil => simp [seqE, leadE]
    | cons y r => simp [seqE, leadE]
theorem itT_seq1 {α : Type} (st o : Nat) (en : UInt8) (l : List (α × List UInt8)) : (if l.isEmpty then [] else lineL st (o + 1)) ++ itT st o en true l = seqE st o true (l.map (·.2)) ++ ((if l.isEmpty then [] else lineL st o) ++ [en]) := by
  cases l with
  | nil => rfl
  | cons x r =>
    have ih := itT_seq st o en r
    unfold itT
    rw [ih, List.map_cons]
    cases r with
    | nil => simp [seqE, leadE]
    | cons y r => simp [seqE, leadE]
theorem prI_snd {qc : Int → List UInt8} {nt : Bool → List Nat → Int → List UInt8} {st o : Nat} : ∀ l : List VT, (prI qc nt st o l).map (·.2) = (l.map fun y => ((⟨#[]⟩ : ByteArray), y)).map (pcE qc nt st o false)
  | [] => by unfold prI; rfl
  | v :: r => by
    unfold prI
    rw [List.map_cons, List.map_cons, List.map_cons, prI_snd r]
    simp [pcE]
theorem prK_snd {qc : Int → List UInt8} {nt : Bool → List Nat → Int → List UInt8} {st o : Nat} : ∀ (l : List VT) (ks : List ByteArray), ks.length = l.length → (prK qc nt st o l ks).map (·.2) = (ks.zip l).map (pcE qc nt st o true)
  | [], ks, _ => by
    unfold prK
    cases ks <;> rfl
  | v :: r, [], h => by simp at h
  | v :: r, s :: ks, h => by
    unfold prK
    have h2 : ks.length = r.length := by simpa using h
    rw [List.map_cons, List.zip_cons_cons, List.map_cons, show (s :: ks).tail = ks from rfl, prK_snd r ks h2]
    simp [pcE, keyL, List.append_assoc]
/-- A list or an object, printed. -/
def holdL (qc : Int → List UInt8) (nt : Bool → List Nat → Int → List UInt8) (st o : Nat) (be en : UInt8) (x : VT) : List UInt8 :=
  [be] ++ (seqE st o true ((entL x).map (pcE qc nt st o (decide (x.kind = 6)))) ++ ((if x.list.isEmpty then [] else lineL st o) ++ [en]))
theorem isEmpty_len {α β : Type} {l : List α} {r : List β} (h : l.length = r.length) : l.isEmpty = r.isEmpty := by
  cases l <;> cases r <;> simp_all
theorem prV_list {qc : Int → List UInt8} {nt : Bool → List Nat → Int → List UInt8} {st o : Nat} {x : VT} (h : x.kind = 5) : prV qc nt st o x = holdL qc nt st o 91 93 x := by
  cases x with
  | mk k n xs e t l ks =>
    have hk : k = 5 := h
    subst hk
    have hm := (prI_map (qc := qc) (nt := nt) (st := st) (o := o) l)
    have hi := isEmpty_len hm.2
    have hs := itT_seq1 st o 93 (prI qc nt st o l)
    rw [hi, prI_snd] at hs
    unfold prV holdL
    rw [entL_mk]
    simp only [show ¬ (5 : Int) = 1 by decide, show ¬ (5 : Int) = 2 by decide, show ¬ (5 : Int) = 3 by decide, show ¬ (5 : Int) = 4 by decide, show ¬ (5 : Int) = 6 by decide, if_false, if_true, VT.kind, VT.list, decide_false]
    rw [hs]
    rfl
theorem prV_object {qc : Int → List UInt8} {nt : Bool → List Nat → Int → List UInt8} {st o : Nat} {x : VT} (h : x.kind = 6) (hl : x.keys.length = x.list.length) : prV qc nt st o x = holdL qc nt st o 123 125 x := by
  cases x with
  | mk k n xs e t l ks =>
    have hk : k = 6 := h
    subst hk
    have hl' : ks.length = l.length := hl
    have hm := (prK_map (qc := qc) (nt := nt) (st := st) (o := o) l ks hl')
    have hi := isEmpty_len hm.2
    have hs := itT_seq1 st o 125 (prK qc nt st o l ks)
    rw [hi, prK_snd _ _ hl'] at hs
    unfold prV holdL
    rw [entL_mk]
    simp only [show ¬ (6 : Int) = 1 by decide, show ¬ (6 : Int) = 2 by decide, show ¬ (6 : Int) = 3 by decide, show ¬ (6 : Int) = 4 by decide, show ¬ (6 : Int) = 5 by decide, if_false, if_true, VT.kind, VT.list, decide_true]
    rw [hs]
    rfl
end Go.Proofs.YtpbfdgjeocmikaaGreatDoor

namespace Go.Proofs.YtpbfdgjeocmikaaGreatDoor
open Go.RowKit
/-- An operation that is no 'defer' goes in a round of the wide fence as it goes everywhere. -/
theorem op_roundW {P : Program} {l : Nat} {o : Oper} {a : Act} {w : World} {K : Act → World → Prop} {Q : Exit → Act → World → Prop} (hnd : ∀ c, o.op ≠ .defer c) (h : o.wp P a w K Q) :
    o.wpIn (Fence.wide.inRound l) 0 P a w K Q := by
  refine ⟨fun _ _ => trivial, ?_⟩
  have hs : o.semAt (Fence.wide.inRound l).round a.eval = execOp a.eval o := Oper.semAt_some l _ _ hnd
  rw [hs]
  unfold Oper.wp at h
  generalize (execOp a.eval o).run P w = r at h ⊢
  cases r with
  | ok nx w' =>
    cases nx with
    | value v => exact h
    | skip => exact h
    | defer d => exact h
    | enter f args => exact ⟨(fun h => absurd h (by simp [Fence.inRound, Fence.wide])), CallsIn.inRound l (callsIn_wide.2 h)⟩
    | row row args =>
      refine ⟨(fun h => absurd h (by simp [Fence.inRound, Fence.wide])), fun c cs _ => ?_⟩
      obtain ⟨v, w2, hr, hst⟩ := h c cs
      exact ⟨v, w2, hr, stepsIn_wide.2 hst⟩
    | _ => exact h.elim
  | halt x w' => cases x <;> exact h

theorem any_roundW {P : Program} {l : Nat} {md : Region.Mode} {ops : Array Oper} {Q : Exit → Act → World → Prop} (hnd : ∀ (i : Nat) (o : Oper), ops[i]? = some o → ∀ c, o.op ≠ .defer c) (hq : ¬ LetsOut Q) :
    ∀ (fuel : Nat) (listed : Array Bool) (a : Act) (w : World), wpAny P md ops Q fuel listed a w → wpAnyIn (Fence.wide.inRound l) 0 P md ops Q fuel listed a w
  | 0, _, _, _, h => h
  | fuel + 1, listed, a, w, h => by
    refine ⟨h.1, fun i hi => ?_⟩
    have h2 := h.2 i hi
    unfold wpOp at h2
    unfold wpOpIn
    cases ho : ops[i]? with
    | none =>
      simp only [ho] at h2 ⊢
      exact any_roundW hnd hq fuel _ _ _ h2
    | some o =>
      simp only [ho] at h2 ⊢
      by_cases hw : Region.wanted o (yielded ops a.tmps) = true
      · rw [if_pos hw] at h2 ⊢
        rcases h2 with h2 | h2
        · exact Oper.wpIn_mono (fun a' w' h3 => any_roundW hnd hq fuel _ _ _ h3) (op_roundW (hnd i o ho) h2)
        · exact absurd h2.2 hq
      · rw [if_neg hw] at h2 ⊢
        exact ⟨fun _ _ => trivial, any_roundW hnd hq fuel _ _ _ h2⟩

theorem region_held_roundW {P : Program} {l id : Nat} {Q : Exit → Act → World → Prop} {a : Act} {w : World} {ops : List Oper} {S : World → Prop} (hm : P.follows .mixedOrders = true)
    (hnd : ops.all (fun o => match o.op with | .defer _ => false | _ => true) = true) (hq : ¬ LetsOut Q) (hS : S w.drew)
    (h : S w.drew → wpAnyH P .any ops.toArray Q S ops.toArray.size (Array.replicate ops.toArray.size false) a w.drew) : (Code.region id ops.toArray true).wpIn (Fence.wide.inRound l) 0 P Q a w := by
  refine wpIn_region_any hm (any_roundW (fun i o ho c e => ?_) hq _ _ _ _ (wpAny_of_held _ _ _ _ (h hS)))
  rw [List.all_eq_true] at hnd
  have hmem : o ∈ ops := by
    rw [List.getElem?_toArray] at ho
    exact List.mem_of_getElem? ho
  have := hnd o hmem
  rw [e] at this
  cases this
end Go.Proofs.YtpbfdgjeocmikaaGreatDoor
