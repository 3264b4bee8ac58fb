/-
  A region that draws its order, in a round of a range over a function: one walk in the order of the text serves where all but the last operations only read. Over any program.
  Contracts of nat.allDigits, nat.smallNumber and nat.Parse: the number that decimal digits tell.
  Texts of digits there and back, and nat.Print in all its cases. Plain lemmas and one contract; no condition.
-/
import Derived.Test.YtpmdcahomkdfmaaGreatDoorBPow
import Derived.StillTailTactics
import Derived.OrdersIn
import Derived.Test.YtpmdcahomkdfmaaGreatDoorBNapi
import Derived.Lib.IndexBytes
set_option linter.unusedVariables false
set_option linter.unusedSimpArgs false
namespace Go.Proofs.YtpmdcahomkdfmaaGreatDoor
open Go.RowKit

/-- An operation that is no 'defer' goes in a round of the wide fence as it goes everywhere. -/
theorem op_round {P : Program} {l : Nat} {o : Oper} {a : Act} {w : World} {K : Act → World → Prop} {Q : Exit → Act → World → Prop} (hnd : ∀ c, o.op ≠ .defer c) (h : o.wp P a w K Q) :
    o.wpIn (Fence.wide.inRound l) 0 P a w K Q := by
  refine ⟨fun _ _ => trivial, ?_⟩
  have hs : o.semAt (Fence.wide.inRound l).round a.eval = execOp a.eval o := Oper.semAt_some l _ _ hnd
  rw [hs]
  unfold Oper.wp at h
  generalize (execOp a.eval o).run P w = r at h ⊢
  cases r with
  | ok nx w' =>
    cases nx with
    | value v => exact h
    | skip => exact h
    | defer d => exact h
    | enter f args => exact ⟨(fun h => absurd h (by simp [Fence.inRound, Fence.wide])), CallsIn.inRound l (callsIn_wide.2 h)⟩
    | row row args =>
      refine ⟨(fun h => absurd h (by simp [Fence.inRound, Fence.wide])), fun c cs _ => ?_⟩
      obtain ⟨v, w2, hr, hst⟩ := h c cs
      exact ⟨v, w2, hr, stepsIn_wide.2 hst⟩
    | _ => exact h.elim
  | halt x w' => cases x <;> exact h

theorem any_round {P : Program} {l : Nat} {md : Region.Mode} {ops : Array Oper} {Q : Exit → Act → World → Prop} (hnd : ∀ (i : Nat) (o : Oper), ops[i]? = some o → ∀ c, o.op ≠ .defer c) (hq : ¬ LetsOut Q) :
    ∀ (fuel : Nat) (listed : Array Bool) (a : Act) (w : World), wpAny P md ops Q fuel listed a w → wpAnyIn (Fence.wide.inRound l) 0 P md ops Q fuel listed a w
  | 0, _, _, _, h => h
  | fuel + 1, listed, a, w, h => by
    refine ⟨h.1, fun i hi => ?_⟩
    have h2 := h.2 i hi
    unfold wpOp at h2
    unfold wpOpIn
    cases ho : ops[i]? with
    | none =>
      simp only [ho] at h2 ⊢
      exact any_round hnd hq fuel _ _ _ h2
    | some o =>
      simp only [ho] at h2 ⊢
      by_cases hw : Region.wanted o (yielded ops a.tmps) = true
      · rw [if_pos hw] at h2 ⊢
        rcases h2 with h2 | h2
        · exact Oper.wpIn_mono (fun a' w' h3 => any_round hnd hq fuel _ _ _ h3) (op_round (hnd i o ho) h2)
        · exact absurd h2.2 hq
      · rw [if_neg hw] at h2 ⊢
        exact ⟨fun _ _ => trivial, any_round hnd hq fuel _ _ _ h2⟩

/-- The region: the first n operations in the text's order, reading alone; the tail behind them. -/
theorem still_round {P : Program} {l id : Nat} {Q : Exit → Act → World → Prop} {a : Act} {w : World} {ops : List Oper} (n : Nat) (hm : P.follows .mixedOrders = true) (hB : Region.lexTailB .any ops.toArray n = true)
    (hnd : ops.all (fun o => match o.op with | .defer _ => false | _ => true) = true) (hq : ¬ LetsOut Q)
    (h : wpStill P ops.toArray w.drew (fun a' => wpList P ops.toArray Q (ops.drop n) a' w.drew) (ops.take n) a) :
    (Code.region id ops.toArray true).wpIn (Fence.wide.inRound l) 0 P Q a w := by
  refine wpIn_region_any hm (any_round (fun i o ho c e => ?_) hq _ _ _ _ ?_)
  · rw [List.all_eq_true] at hnd
    have hmem : o ∈ ops := by
      rw [List.getElem?_toArray] at ho
      exact List.mem_of_getElem? ho
    have := hnd o hmem
    rw [e] at this
    cases this
  · have hB' := hB
    simp only [Region.lexTailB, Bool.and_eq_true, decide_eq_true_eq] at hB
    obtain ⟨⟨⟨⟨hsel, hn⟩, hs⟩, hc⟩, hlex⟩ := hB
    have hn' : n < ops.length := by simpa using hn
    have htl : (ops.take n).length = n := by simp; omega
    have hdl : (ops.drop n).length = ops.toArray.size - n := by simp
    have inv0 : HeadInv .any ops.toArray n (Array.replicate ops.toArray.size false) :=
      ⟨by simp, fun j oj _ hl => (by rw [getD_replicate_false] at hl; cases hl), fun t _ ht => getD_in (by simpa using ht) (getD_replicate_false _ _)⟩
    have H := wpAnyL_lex (md := .any) (g := ops.toArray.size - n) hsel hs hc hn (ops.take n) 0 _ a (fun j hj => by
      have hj' : j < n := by rw [htl] at hj; exact hj
      simp [hj']) (by simpa using htl) inv0 (by rw [htl]; exact hlex) h
    have h9 := wpAny_of_head (Q' := Q) (g := ops.toArray.size - n) (fun listed a' hL => by
      have h8 := wpAny_of_seq (md := .any) (Q' := Q) (ops.drop n) n listed a' w.drew (fun j => by simp [List.getElem?_drop]) (by rw [hdl]; exact hL.1) hL.2
      rwa [hdl] at h8) _ _ _ H
    rw [htl, show n + (ops.toArray.size - n) = ops.toArray.size by omega] at h9
    exact h9

theorem still_of {P : Program} {f : FuncId} {args : Array Value} {w : World} {v : Value} (h : Calls P f args w fun e w' => e = .returned v ∧ w = w') : Calls P f args w fun e w' => e = .returned v ∧ w' = w :=
  h.mono fun _ _ hh => ⟨hh.1, hh.2.symm⟩
end Go.Proofs.YtpmdcahomkdfmaaGreatDoor

namespace Go.Proofs.YtpmdcahomkdfmaaGreatDoor
open Go.RowKit
attribute [local go_sem] Oper.semAt_some

/-- The octets of a text. -/
def octs (s : ByteArray) : List Nat := s.data.toList.map (·.toNat)
theorem octs_length (s : ByteArray) : (octs s).length = s.size := by unfold octs; rw [List.length_map, Array.length_toList]; rfl
theorem octs_get (s : ByteArray) (k : Nat) (h : k < s.size) : nth (octs s) k = (s[k]).toNat := by
  rw [nth_get (by rw [octs_length]; exact h)]
  simp [octs]
  rfl
def isDig (x : Nat) : Bool := decide (48 ≤ x ∧ x ≤ 57)
def allDig (xs : List Nat) : Bool := xs.all isDig
/-- The number of digits' octets, the highest first. -/
def pnum (xs : List Nat) : Nat := xs.foldl (fun a c => a * 10 + (c - 48)) 0
theorem pnum_nil : pnum [] = 0 := rfl
theorem pnum_snoc (xs : List Nat) (c : Nat) : pnum (xs ++ [c]) = pnum xs * 10 + (c - 48) := by simp [pnum]
theorem pnum_from (ys : List Nat) : ∀ a, ys.foldl (fun a c => a * 10 + (c - 48)) a = a * 10 ^ ys.length + pnum ys := by
  induction ys with
  | nil => intro a; simp [pnum_nil]
  | cons c ys ih =>
    intro a
    unfold pnum
    rw [List.foldl_cons, List.foldl_cons, ih, ih, List.length_cons, Nat.pow_succ, Nat.add_mul, Nat.zero_mul, Nat.zero_add, Nat.mul_assoc, Nat.mul_comm 10, Nat.add_assoc]
theorem pnum_append (xs ys : List Nat) : pnum (xs ++ ys) = pnum xs * 10 ^ ys.length + pnum ys := by
  unfold pnum
  rw [List.foldl_append, pnum_from]
  rfl
theorem pnum_cons (c : Nat) (ys : List Nat) : pnum (c :: ys) = (c - 48) * 10 ^ ys.length + pnum ys := by
  have := pnum_append [c] ys
  rw [List.singleton_append] at this
  rw [this]
  simp [pnum]
theorem pnum_lt {xs : List Nat} (h : allDig xs = true) : pnum xs < 10 ^ xs.length := by
  induction xs with
  | nil => simp [pnum_nil]
  | cons c xs ih =>
    simp [allDig, isDig] at h
    have h1 := ih (by simp [allDig, isDig]; exact h.2)
    rw [pnum_cons, List.length_cons, Nat.pow_succ]
    have h2 : (c - 48) * 10 ^ xs.length ≤ 9 * 10 ^ xs.length := Nat.mul_le_mul_right _ (by omega)
    omega
theorem allDig_snoc (xs : List Nat) (c : Nat) : allDig (xs ++ [c]) = (allDig xs && isDig c) := by simp [allDig]
theorem allDig_bad {xs : List Nat} {k : Nat} (hk : k < xs.length) (h : ¬ (48 ≤ nth xs k ∧ nth xs k ≤ 57)) : allDig xs = false := by
  rw [Bool.eq_false_iff]
  intro e
  unfold allDig at e
  rw [List.all_eq_true] at e
  have := e xs[k] (List.getElem_mem hk)
  unfold isDig at this
  rw [nth_get hk] at h
  exact h (of_decide_eq_true this)
theorem allDig_take {xs : List Nat} (h : allDig xs = true) (k : Nat) : allDig (xs.take k) = true := by
  unfold allDig at h ⊢
  rw [List.all_eq_true] at h ⊢
  exact fun x hx => h x (List.mem_of_mem_take hx)
theorem allDig_drop {xs : List Nat} (h : allDig xs = true) (k : Nat) : allDig (xs.drop k) = true := by
  unfold allDig at h ⊢
  rw [List.all_eq_true] at h ⊢
  exact fun x hx => h x (List.mem_of_mem_drop hx)
theorem allDig_nth {xs : List Nat} (h : allDig xs = true) {k : Nat} (hk : k < xs.length) : 48 ≤ nth xs k ∧ nth xs k ≤ 57 := by
  unfold allDig at h
  rw [List.all_eq_true] at h
  rw [nth_get hk]
  exact of_decide_eq_true (h _ (List.getElem_mem hk))

set_option maxRecDepth 100000 in
theorem allDigits_c (s : ByteArray) (w : World) (hs : s.size ≤ 9223372036854775807) :
    Calls Tryz.prog 138 #[.string s] w fun e w' => e = .returned (.bool (allDig (octs s))) ∧ w = w' := by
  go_enter Tryz.func138, Tryz.ntmps138
  go_wp2
  go_loop [6] (fun i => ∃ k : Nat, k ≤ s.size ∧ i = .int .i64 (k : Int) ∧ Hid (allDig ((octs s).take k) = true)) (fun i => s.size - (RowKit.intOf i).toNat)
  case atStart => exact ⟨0, Nat.zero_le _, rfl, rfl⟩
  case round =>
    obtain ⟨k, hk, rfl, ht⟩ := hrel
    by_cases hlt : k < s.size
    · have ho := octs_get s k hlt
      have HO := Lib.hid ho
      clear ho
      have hbad : ¬ (48 ≤ s[k].toNat ∧ s[k].toNat ≤ 57) → Hid (allDig (octs s) = false) := fun h => allDig_bad (by rw [octs_length]; exact hlt) (by rw [HO.out]; exact h)
      have hgood : (48 ≤ s[k].toNat ∧ s[k].toNat ≤ 57) → Hid (allDig ((octs s).take (k + 1)) = true) := fun h => by
        show _ = _
        rw [take_succ_nth (by rw [octs_length]; exact hlt), allDig_snoc, ht.out, HO.out]
        unfold isDig
        rw [decide_eq_true h]; rfl
      have HB := Lib.hid hbad
      have HG := Lib.hid hgood
      clear hbad hgood ht
      go_wp2
      all_goals first
        | exact ⟨⟨k + 1, by omega, by go_num, HG.out (by omega)⟩, by simp [RowKit.intOf]; omega⟩
        | (go_ret; rw [(HB.out (by omega)).out]; exact ⟨rfl, rfl⟩)
    · have he : k = s.size := by omega
      subst he
      have hd : Hid (allDig (octs s) = true) := by
        have := ht.out
        rwa [List.take_of_length_le (by rw [octs_length]; omega)] at this
      go_wp2
      go_ret
      rw [hd.out]
      exact ⟨rfl, rfl⟩

set_option maxRecDepth 100000 in
theorem smallNumber_c (s : ByteArray) (w : World) (hs : s.size ≤ 9) (hd : allDig (octs s) = true) :
    Calls Tryz.prog 142 #[.string s] w fun e w' => e = .returned (.int .u32 ((pnum (octs s) : Nat) : Int)) ∧ w = w' := by
  have HD := Lib.hid hd
  clear hd
  go_enter Tryz.func142, Tryz.ntmps142
  go_wp2
  go_loop [3, 7] (fun q i => ∃ k v : Nat, k ≤ s.size ∧ i = .int .i64 (k : Int) ∧ q = .int .u32 (v : Int) ∧ Hid (v = pnum ((octs s).take k)) ∧ v < 10 ^ k) (fun _ i => s.size - (RowKit.intOf i).toNat)
  case atStart => exact ⟨0, 0, Nat.zero_le _, rfl, rfl, rfl, by decide⟩
  case round =>
    obtain ⟨k, v, hk, rfl, rfl, hv, hvl⟩ := hrel
    by_cases hlt : k < s.size
    · have ho := octs_get s k hlt
      have hn := allDig_nth HD.out (k := k) (by rw [octs_length]; exact hlt)
      rw [ho] at hn
      have hb8 : v ≤ 99999999 := by
        have : 10 ^ k ≤ 10 ^ 8 := Nat.pow_le_pow_right (by omega) (by omega)
        omega
      obtain ⟨hn1, hn2⟩ := hn
      have HO := Lib.hid ho
      have HVL := Lib.hid hvl
      clear ho hvl
      have hi1 : 48 ≤ (s[k].toNat : Int) := by omega
      have hi2 : (s[k].toNat : Int) ≤ 57 := by omega
      go_wp2
      refine ⟨⟨k + 1, v * 10 + (s[k].toNat - 48), by omega, by go_num, congrArg (Value.int .u32) (by omega), ?_, ?_⟩, by simp [RowKit.intOf]; omega⟩
      · show _ = _
        rw [take_succ_nth (by rw [octs_length]; exact hlt), pnum_snoc, HO.out, hv.out]
      · have := HVL.out
        rw [Nat.pow_succ]
        omega
    · have he : k = s.size := by omega
      subst he
      have hd : Hid (v = pnum (octs s)) := by
        have := hv.out
        rwa [List.take_of_length_le (by rw [octs_length]; omega)] at this
      clear hvl hv
      go_wp2
      go_ret
      rw [← hd.out]
      exact ⟨rfl, rfl⟩

/-- What Parse answers. -/
def parseE (xs : List Nat) : Nat := if xs.length = 0 then 8 else if 2400 < xs.length then 5 else if allDig xs = true then 0 else 32
def parseZ (xs : List Nat) : List Nat := if parseE xs = 0 then lim (pnum xs) else []

theorem Parse_err (s : ByteArray) (w : World) (hs : s.size ≤ 9223372036854775807) (he : parseE (octs s) ≠ 0) :
    Calls Tryz.prog 107 #[.string s] w fun e w' => e = .returned (.tuple #[.slice none 0 0, .int .i64 (parseE (octs s) : Int)]) ∧ Below w.heap.size w w' := by
  have hl := octs_length s
  unfold parseE at he ⊢
  rw [hl] at he ⊢
  by_cases h0 : s.size = 0
  · rw [if_pos h0]
    go_enter Tryz.func107, Tryz.ntmps107
    go_wp2
    go_ret2
    exact ⟨rfl, (Below.refl _ _).alloc (Nat.le_refl _) _⟩
  · rw [if_neg h0] at he ⊢
    have hb0 : ((s.size : Int) == 0) = false := by rw [beq_eq_false_iff_ne]; omega
    by_cases h1 : 2400 < s.size
    · rw [if_pos h1]
      clear he h0 hl
      go_enter Tryz.func107, Tryz.ntmps107
      go_wp2
      go_ret2
      exact ⟨rfl, (Below.refl _ _).alloc (Nat.le_refl _) _⟩
    · rw [if_neg h1] at he ⊢
      by_cases h2 : allDig (octs s) = true
      · rw [if_pos h2] at he; exact absurd rfl he
      · rw [if_neg h2]
        have h3 : allDig (octs s) = false := by simpa using h2
        clear he h0 hl h2
        go_enter Tryz.func107, Tryz.ntmps107
        go_wp2_with (go_at_call 138; refine (allDigits_c _ _ hs).mono ?_; rintro e w' ⟨rfl, rfl⟩)
        go_ret2
        exact ⟨rfl, (Below.refl _ _).alloc (Nat.le_refl _) _⟩

theorem octs_take (t : ByteArray) (x : Nat) : octs (t.extract 0 x) = (octs t).take x := by
  unfold octs
  rw [Lib.extract_data, List.drop_zero, Nat.sub_zero, List.map_take]
theorem octs_drop (t : ByteArray) (x : Nat) : octs (t.extract x t.size) = (octs t).drop x := by
  unfold octs
  rw [Lib.extract_to_end, List.map_drop]
theorem smallNumber_p (t : ByteArray) (q : Nat) (w : World) (hs : t.size ≤ 9) (hd : allDig (octs t) = true) (hq : q = pnum (octs t)) :
    Calls Tryz.prog 142 #[.string t] w fun e w' => e = .returned (.int .u32 (q : Int)) ∧ w = w' := by
  subst hq
  exact smallNumber_c t w hs hd
/-- One group of digits more, in numbers. -/
theorem parse_step {xs : List Nat} {k x : Nat} (h : k + x ≤ xs.length) : pnum (xs.take k) * 10 ^ x + pnum ((xs.drop k).take x) = pnum (xs.take (k + x)) := by
  have e : xs.take (k + x) = xs.take k ++ (xs.drop k).take x := by rw [List.take_add]
  rw [e, pnum_append, List.length_take, List.length_drop, Nat.min_eq_left (by omega)]

set_option maxRecDepth 100000 in
set_option maxHeartbeats 800000 in
theorem Parse_ok (s : ByteArray) (w : World) (h0 : 0 < s.size) (h1 : s.size ≤ 2400) (hd : allDig (octs s) = true) :
    Calls Tryz.prog 107 #[.string s] w fun e w' => ∃ A n' c zs, e = .returned (.tuple #[.slice A n' c, .int .i64 0]) ∧ Res w' w.heap.size A n' c zs ∧ Can zs ∧ val zs = pnum (octs s) ∧ Below w.heap.size w w' := by
  have hb0 : ((s.size : Int) == 0) = false := by rw [beq_eq_false_iff_ne]; omega
  refine (callsIn_wide (n := 0)).1 ?_
  refine callsIn_of_wp_marks Tryz.func107 rfl trivial ?_ rfl
  simp only [Tryz.ntmps107, List.size_toArray, List.length_cons, List.length_nil, Nat.reduceAdd, Nat.reduceSub, Array.replicate_succ, Array.replicate_zero, List.push_toArray, List.append_toArray, List.nil_append, List.cons_append]
  gi_wp2_with (first
    | (refine ⟨trivial, rfl, ?_⟩; gi_at_call 138; refine (callsIn_wide.2 (allDigits_c s _ (by omega))).mono ?_; rintro e w' ⟨rfl, rfl⟩)
    | (refine ⟨trivial, rfl, ?_⟩; gi_at_call 139; refine (callsIn_wide.2 (groupSizes_c _ _)).mono ?_; rintro e w' ⟨rfl, rfl⟩))
  obtain ⟨W0, hW0⟩ : ∃ W0, ((w.alloc (.cells #[.string s] 9)).alloc (.cells #[.slice none 0 0] 22)).alloc (.cells #[.int .i64 (s.size : Int)] 3) = W0 := ⟨_, rfl⟩
  rw [hW0]
  have hz : W0.heap.size = w.heap.size + 3 := by rw [← hW0]; simp
  have hb01 : Below w.heap.size w W0 := by rw [← hW0]; exact (((Below.refl _ _).alloc (Nat.le_refl _) _).alloc (by simp) _).alloc (by simp; omega) _
  have bS : Boxed W0 w.heap.size 9 (.string s) := by
    rw [← hW0]
    exact ((Boxed.new w 9 (.string s)).alloc _).alloc _
  have bO : Boxed W0 (w.heap.size + 1) 22 (.slice none 0 0) := by
    rw [← hW0]
    have h := Boxed.new (w.alloc (.cells #[.string s] 9)) 22 (.slice none 0 0)
    rw [World.size_alloc] at h
    exact h.alloc _
  have bN : Boxed W0 (w.heap.size + 2) 3 (.int .i64 (s.size : Int)) := by
    rw [← hW0]
    have h := Boxed.new ((w.alloc (.cells #[.string s] 9)).alloc (.cells #[.slice none 0 0] 22)) 3 (.int .i64 (s.size : Int))
    simp only [World.size_alloc, Nat.add_assoc, Nat.reduceAdd] at h
    exact h
  clear hW0
  have hol := octs_length s
  have HOL := Lib.hid hol
  have HD := Lib.hid hd
  clear hol hd
  refine range_law (gf := 160) (lb := #[.pointer (some ⟨w.heap.size + 2, 0, none⟩)]) rfl (enters_of Tryz.func160 (by kernel_rfl) rfl) (encs := enc1) (xs := sizesL s.size) (keep := fun _ => False)
    (fun W hW => groupSizes1_iter W ((hW.cell (p := ⟨w.heap.size + 2, 0, none⟩) (by show w.heap.size + 2 < W0.heap.size; omega)).trans bN.cell) (by omega))
    (fun _ => rfl) (fun k hk => hk.elim)
    (fun r pre W => ∃ (A : Option Addr) (n' c : Nat) (zs : List Nat) (t : ByteArray), Boxed W w.heap.size 9 (.string t) ∧ Hid (octs t = (octs s).drop pre.sum) ∧ Boxed W (w.heap.size + 1) 22 (.slice A n' c) ∧ Res W w.heap.size A n' c zs ∧ Can zs ∧ Hid (val zs = pnum ((octs s).take pre.sum)) ∧ Below w.heap.size w W ∧ (∀ g, A = some ⟨g, 0, none⟩ → g ≠ w.heap.size ∧ g ≠ w.heap.size + 1 ∧ ∀ k, r = some k → g ≠ k))
    ?_ ?_ ?_ ?_
  · rintro r pre X Y row ⟨A, n', c, zs, t, h0, ht, h1, h2, h3, h4, h5, h6⟩ hg hr
    refine ⟨A, n', c, zs, t, h0.kept hg (fun e => by have := (hr _ e.symm).1; omega), ht, h1.kept hg (fun e => by have := (hr _ e.symm).1; omega), h2.keep (fun g e => ?_), h3, h4, h5.grown hg h5.size (fun k e => by have := (hr k e).1; omega), h6⟩
    rcases h2.form with ⟨h, _⟩ | ⟨g', h, _, hlt⟩
    · rw [h] at e; cases e
    · obtain rfl : g' = g := by rw [h] at e; injection e with e; injection e
      refine hg.block g' hlt (fun e' => ?_)
      rcases (hr g' e'.symm).2 with h7 | ⟨o, ho, hc⟩
      · exact (h6 g' e).2.2 g' h7 rfl
      · rcases h2.own.2 with ⟨e2, _⟩ | ⟨g2, cap, cur, e2, _, hh, _⟩
        · injection e2 with e2; rw [e2] at e; cases e
        · injection e2 with e2
          rw [e] at e2
          injection e2 with e2
          injection e2 with e2
          subst e2
          rw [hh] at ho
          injection ho with ho
          subst ho
          cases hc
  · intro r W hW hr
    exact ⟨none, 0, 0, [], s, (hW.block _ (by omega)).trans bS, by show _ = _; simp, (hW.block _ (by omega)).trans bO, Res.nil _ _, Can.nil, rfl, hb01.trans (hW.mono (by omega)), fun g e => by cases e⟩
  · rintro l r pre x rest hx W K hK
    obtain ⟨hx9, _⟩ := sizesL_le hx
    have hsum := sum_le_of_split hx
    dsimp only [enc1]
    have HK := Lib.hid hK
    clear hK
    gi_wp2
    refine HK.out _ ?_
    rintro W2 ⟨A, n', c, zs, t, h0s, ht, h1, h2, h3, h4, h5, h6⟩ hz2 hr2
    have hc0 := h0s.cell
    have hf0 := h0s.frozen
    have hc1 := h1.cell
    have hf1 := h1.frozen
    have htl : t.size = s.size - pre.sum := by rw [← octs_length, ht.out, List.length_drop, HOL.out]
    have hxt : x ≤ t.size := by omega
    have hts : t.size ≤ 2400 := by omega
    obtain ⟨p, hp⟩ : ∃ p, p = 10 ^ x := ⟨_, rfl⟩
    obtain ⟨q, hq⟩ : ∃ q, q = pnum (octs (t.extract 0 x)) := ⟨_, rfl⟩
    have hp1 : 1 ≤ p := by rw [hp]; exact Nat.pow_pos (by omega)
    have hp2 : p < 4294967296 := by
      have : 10 ^ x ≤ 10 ^ 9 := Nat.pow_le_pow_right (by omega) hx9
      rw [hp]; omega
    have hqd : allDig (octs (t.extract 0 x)) = true := by rw [octs_take, ht.out]; exact allDig_take (allDig_drop HD.out _) _
    have hqs : (t.extract 0 x).size ≤ 9 := by rw [← octs_length, octs_take, List.length_take]; omega
    have hq2 : q < 4294967296 := by
      have h1 := pnum_lt hqd
      have h2 : 10 ^ (octs (t.extract 0 x)).length ≤ 10 ^ 9 := Nat.pow_le_pow_right (by omega) (by rw [octs_length]; exact hqs)
      rw [hq]; omega
    have hn' : n' ≤ 250 := by
      rw [← h2.len]
      refine h3.len_le ?_
      rw [h4.out]
      have h7 := pnum_lt (allDig_take HD.out pre.sum)
      have h8 := pow10_lt (n := ((octs s).take pre.sum).length) (by rw [List.length_take, HOL.out]; omega)
      omega
    have HP := Lib.hid hp
    have HQ := Lib.hid hq
    have HQD := Lib.hid hqd
    have HTL := Lib.hid htl
    clear hp hq hx hqd htl
    have h2d : Res W2.drew w.heap.size A n' c zs := h2.keep (fun _ _ => rfl)
    have hs5 := h5.size
    have hne : ∀ g, (Value.slice A n' c).ownBlock = some g → A = some ⟨g, 0, none⟩ := fun g e => by
      rcases h2.form with ⟨h, _⟩ | ⟨g', h, _, hlt⟩
      · rw [h] at e; simp [Value.ownBlock] at e
      · rw [h] at e ⊢; simp [Value.ownBlock] at e; rw [e]
    have HNE := Lib.hid hne
    clear hne
    have kbf : ∀ X, W2.drew.grownBy X (Value.slice A n' c).ownBlock → Boxed X (w.heap.size + 1) 22 (.slice A n' c) ∧ Boxed X w.heap.size 9 (.string t) := fun X hg =>
      ⟨Boxed.kept (W := W2.drew) h1 hg (fun e => (h6 _ (HNE.out _ e.symm)).2.1 rfl), Boxed.kept (W := W2.drew) h0s hg (fun e => (h6 _ (HNE.out _ e.symm)).1 rfl)⟩
    have kof : ∀ X, W2.drew.grownBy X (Value.slice A n' c).ownBlock → KeepsOthers W2 X ∧ Below w.heap.size W2 X ∧ ∀ k, r = some k → X.heap[k]? = W2.heap[k]? := fun X hg => by
      refine ⟨(KeepsOthers.drew W2).trans (KeepsOthers.of_grownBy hg fun j o e ho => ?_), (Below.refl _ W2).drew.grown hg hs5 (fun k e => ?_), fun k hk => (hg.block k (hr2 k hk).2 (fun e => ?_)).trans rfl⟩
      · have e2 := HNE.out j e
        rcases h2.own.2 with ⟨e3, _⟩ | ⟨g2, cap, cur, e3, _, hh, _⟩
        · injection e3 with e3; rw [e3] at e2; cases e2
        · injection e3 with e3
          rw [e2] at e3
          injection e3 with e3
          injection e3 with e3
          subst e3
          have ho2 : W2.heap[j]? = some o := ho
          rw [hh] at ho2
          injection ho2 with ho2
          subst ho2
          rfl
      · have e2 := HNE.out k e
        rcases h2.form with ⟨h, _⟩ | ⟨g', h, hb, hlt⟩
        · rw [h] at e2; cases e2
        · rw [h] at e2; injection e2 with e2; injection e2 with e2; omega
      · exact (h6 k (HNE.out k e.symm)).2.2 k hk rfl
    have hmx : Tryz.prog.follows .mixedOrders = true := by kernel_rfl
    gi_wp2
    refine still_round 7 hmx (by kernel_rfl) (by rfl) (fun h => ?_) ?_
    · obtain ⟨_, _, h⟩ := h
      exact h
    simp only [List.take_succ_cons, List.take_zero, List.drop_succ_cons, List.drop_zero]
    repeat still_step
    refine wpStill_step (fun K hK => ?_)
    go_simp
    refine ⟨_, still_of (smallPower_p x p _ hx9 HP.out), hK _ ?_⟩
    clear hK K
    repeat still_step
    refine wpStill_step (fun K hK => ?_)
    go_simp
    refine ⟨_, still_of (smallNumber_p (t.extract 0 x) q _ hqs HQD.out HQ.out), hK _ ?_⟩
    clear hK K
    refine wpStill_nil ?_
    go_wp2_with (go_at_call 140; refine (scale_c p q _ h2d h3 hp2 hp1 hq2 (by omega) hs5).mono ?_; rintro e w2 ⟨A2, n2, c2, zs2, rfl, hr3, hc3, hv3, hn3, hg3, hat3⟩; have kb := kbf _ hg3; have hc5 := kb.1.cell; have hf5 := kb.1.frozen; have hc6 := kb.2.cell; have hf6 := kb.2.frozen)
    have kb2 : Boxed (w2.setCell ⟨w.heap.size + 1, 0, none⟩ (.slice A2 n2 c2)) w.heap.size 9 (.string t) := kb.2.kept (grownBy_setCell' _ _ _) (by simp)
    have hc7 := kb2.cell
    have hf7 := kb2.frozen
    gi_wp2
    obtain ⟨g1, g2, g3⟩ := kof _ hg3
    have hg2 : ∀ g, A2 = some ⟨g, 0, none⟩ → g ≠ w.heap.size ∧ g ≠ w.heap.size + 1 ∧ ∀ k, r = some k → g ≠ k := by
      intro g e
      rcases hat3 with h | ⟨g', h, hle⟩
      · rw [h] at e; exact h6 g e
      · rw [h] at e; injection e with e; injection e with e
        have h8 := h1.lt
        have h9 := h0s.lt
        simp at hle
        exact ⟨by omega, by omega, fun k hk => by have := hr2 k hk; omega⟩
    refine ⟨(g1.trans (KeepsOthers.setCell _ _ _)).trans (KeepsOthers.setCell _ _ _), ⟨by simp [World.setCell]; exact g1.size, fun k hk => ?_⟩, A2, n2, c2, zs2, t.extract x t.size, kb2.set _, ?_, (kb.1.set _).kept (grownBy_setCell' _ _ _) (by simp), ?_, hc3, ?_, ?_, hg2⟩
    · rcases hk with h | h
      · exact h.elim
      · have := hr2 k h
        rw [Below.heap_setCell _ _ _ _ (show k ≠ w.heap.size by omega), Below.heap_setCell _ _ _ _ (show k ≠ w.heap.size + 1 by omega)]
        exact g3 k h
    · show _ = _
      rw [octs_drop, ht.out, List.drop_drop, List.sum_append]; simp
    · refine (hr3.grown (grownBy_setCell' _ _ _) (fun g e he => ?_)).grown (grownBy_setCell' _ _ _) (fun g e he => ?_)
      · injection he with he; exact (hg2 g e).2.1 he
      · injection he with he; exact (hg2 g e).1 he
    · show _ = _
      rw [hv3, h4.out, HP.out, HQ.out, octs_take, ht.out, parse_step (by rw [HOL.out]; omega), List.sum_append]; simp
    · exact ((h5.trans g2).setCell (p := ⟨w.heap.size + 1, 0, none⟩) (by simp) _).setCell (p := ⟨w.heap.size, 0, none⟩) (by simp) _
  · intro D r W ⟨A, n', c, zs, t, h0s, ht, h1, h2, h3, h4, h5, h6⟩ hD hK
    have hc1 := h1.cell
    gi_wp2
    refine ⟨by simp, .inl ⟨_, _, rfl, run_takeDeferred hK, ?_⟩⟩
    have hv := h4.out
    rw [sizesL_sum, List.take_of_length_le (by rw [HOL.out]; omega)] at hv
    exact ⟨_, results_tmp2 rfl _ _ _, A, n', c, zs, rfl, ⟨h2.len, h2.l32, ownsRow_putObj h2.own _ hK rfl⟩, h3, hv, h5.trans (below_of_only (only_putObj _ _ _) (by omega) h5.size)⟩

/-- Parse, whatever the text. -/
theorem Parse_c (s : ByteArray) (w : World) (hs : s.size ≤ 9223372036854775807) :
    Calls Tryz.prog 107 #[.string s] w fun e w' => ∃ A n c, e = .returned (.tuple #[.slice A n c, .int .i64 (parseE (octs s) : Int)]) ∧ Res w' w.heap.size A n c (parseZ (octs s)) ∧ Below w.heap.size w w' := by
  by_cases he : parseE (octs s) = 0
  · have he' := he
    unfold parseE at he'
    by_cases h0 : (octs s).length = 0
    · rw [if_pos h0] at he'; omega
    · rw [if_neg h0] at he'
      by_cases h1 : 2400 < (octs s).length
      · rw [if_pos h1] at he'; omega
      · rw [if_neg h1] at he'
        by_cases h2 : allDig (octs s) = true
        · rw [octs_length] at h0 h1
          refine (Parse_ok s w (by omega) (by omega) h2).mono ?_
          rintro e w' ⟨A, n, c, zs, rfl, hr, hc, hv, hb⟩
          have hz : parseZ (octs s) = zs := by
            unfold parseZ
            rw [if_pos he, ← hv]
            exact (eq_lim hc).symm
          rw [he, hz]
          exact ⟨A, n, c, rfl, hr, hb⟩
        · rw [if_neg h2] at he'; omega
  · refine (Parse_err s w hs he).mono ?_
    rintro e w' ⟨rfl, hb⟩
    have hz : parseZ (octs s) = [] := if_neg he
    rw [hz]
    exact ⟨none, 0, 0, rfl, Res.nil _ _, hb⟩
end Go.Proofs.YtpmdcahomkdfmaaGreatDoor

namespace Go.Proofs.YtpmdcahomkdfmaaGreatDoor
open Go.RowKit

theorem octs_txt {xs : List Nat} (h : L8 xs) : octs (txt xs) = xs := by
  unfold octs txt
  simp only [List.map_map]
  rw [List.map_congr_left (g := id)]
  · simp
  · intro x hx
    have := h x hx
    simp [Function.comp_def, UInt8.toNat_ofNat']
    omega
theorem dval_pnum (xs : List Nat) : dval ((xs.map (· - 48)).reverse) = pnum xs := by
  induction xs with
  | nil => rfl
  | cons c xs ih =>
    rw [List.map_cons, List.reverse_cons, dval_snoc, ih, pnum_cons, List.length_reverse, List.length_map, Nat.add_comm, Nat.mul_comm]
    rfl
theorem digs_of {xs : List Nat} (h : allDig xs = true) : D10 ((xs.map (· - 48)).reverse) := by
  intro d hd
  rw [List.mem_reverse] at hd
  obtain ⟨x, hx, rfl⟩ := List.mem_map.1 hd
  unfold allDig at h
  rw [List.all_eq_true] at h
  have := of_decide_eq_true (h x hx)
  omega
theorem allDig_chars {ds : List Nat} (h : D10 ds) : allDig ((ds.map (· + 48)).reverse) = true := by
  unfold allDig
  rw [List.all_eq_true]
  intro x hx
  rw [List.mem_reverse] at hx
  obtain ⟨d, hd, rfl⟩ := List.mem_map.1 hx
  have := h d hd
  unfold isDig
  exact decide_eq_true (by omega)
/-- The decimal text of a number is made of digits, and tells it. -/
theorem isDec_octs {v : Nat} {s : ByteArray} (h : IsDec v s) : allDig (octs s) = true ∧ pnum (octs s) = v ∧ 0 < s.size := by
  rcases h with ⟨h0, rfl⟩ | ⟨hp, ds, hc, hv, rfl⟩
  · rw [octs_txt (L8.one (by omega)), h0]
    exact ⟨by decide, by decide, by decide⟩
  · have h8 : L8 ((ds.map (· + 48)).reverse) := fun x hx => by
      rw [List.mem_reverse] at hx
      exact chars_l8 hc.1 x hx
    have ha := allDig_chars hc.1
    refine ⟨by rw [octs_txt h8]; exact ha, ?_, ?_⟩
    · rw [octs_txt h8, ← dval_pnum, List.map_reverse, List.reverse_reverse, List.map_map]
      rw [List.map_congr_left (g := id)]
      · simpa using hv
      · intro x hx; simp [Function.comp_def]
    · rw [← octs_length, octs_txt h8, List.length_reverse, List.length_map]
      rcases Nat.eq_zero_or_pos ds.length with e | e
      · rw [List.eq_nil_of_length_eq_zero e] at hv; rw [dval_nil] at hv; omega
      · exact e
theorem isDec_size {v n : Nat} {s : ByteArray} (h : IsDec v s) (hn : 0 < n) (hv : v < 10 ^ n) : s.size ≤ n := by
  rcases h with ⟨h0, rfl⟩ | ⟨hp, ds, hc, hd, rfl⟩
  · have : (txt [48]).size = 1 := by decide
    omega
  · have h8 : L8 ((ds.map (· + 48)).reverse) := fun x hx => by
      rw [List.mem_reverse] at hx
      exact chars_l8 hc.1 x hx
    rw [← octs_length, octs_txt h8, List.length_reverse, List.length_map]
    by_cases hne : ds = []
    · rw [hne]; simp
    · have h1 := hc.ge hne
      rcases Nat.lt_or_ge n ds.length with h2 | h2
      · have h3 := dp_mono (show n ≤ ds.length - 1 by omega)
        unfold dp at h1 h3
        omega
      · exact h2

theorem parseE_ok {xs : List Nat} (h0 : 0 < xs.length) (h1 : xs.length ≤ 2400) (h2 : allDig xs = true) : parseE xs = 0 ∧ parseZ xs = lim (pnum xs) := by
  have e : parseE xs = 0 := by unfold parseE; rw [if_neg (by omega), if_neg (by omega), if_pos h2]
  exact ⟨e, if_pos e⟩
theorem bp_lt_ten {n v : Nat} (h : n ≤ 256) (hv : v < bp n) : ∃ m, 0 < m ∧ m ≤ 2731 ∧ v < 10 ^ m := by
  obtain ⟨m, hm⟩ : ∃ m, m = 2731 := ⟨_, rfl⟩
  refine ⟨m, by omega, by omega, ?_⟩
  have h1 : bp n = 2 ^ (32 * n) := by unfold bp; rw [Nat.pow_mul]
  rw [h1] at hv
  have h2 : 2 ^ (32 * n) ≤ (2 ^ 3) ^ m := by rw [← Nat.pow_mul]; exact Nat.pow_le_pow_right (by omega) (by omega)
  exact Nat.lt_trans (Nat.lt_of_lt_of_le hv h2) (Nat.pow_lt_pow_left (by decide) (by omega))
theorem Print_c {S : Nat → Prop} {n c : Nat} {A : Option Addr} {xs : List Nat} (w : World) (ha : Rd w S A n xs) (hS : ∀ b, S b → b < w.heap.size) (hn : n ≤ 9223372036854775807) :
    Calls Tryz.prog 76 #[.slice A n c] w fun e w' => ∃ s, e = .returned (.tuple #[.string s, .int .i64 (chk xs : Int)]) ∧ (chk xs = 0 → Can xs ∧ IsDec (val xs) s) ∧ (chk xs ≠ 0 → s = ⟨#[]⟩) ∧ s.size ≤ 2731 ∧ Below w.heap.size w w' := by
  by_cases he : chk xs = 0
  · obtain ⟨hc, hl⟩ := can_of_chk ha.l32 he
    refine (Print_ok w ha hS hc (by rw [← ha.len]; exact hl)).mono ?_
    rintro e w' ⟨s, rfl, hd, hb⟩
    rw [he]
    obtain ⟨m, hm0, hm, hv⟩ := bp_lt_ten hl (val_lt hc.l32)
    have := isDec_size hd hm0 hv
    exact ⟨s, rfl, fun _ => ⟨hc, hd⟩, fun h => absurd rfl h, by omega, hb⟩
  · refine (Print_err w ha hn he).mono ?_
    rintro e w' ⟨rfl, rfl⟩
    exact ⟨_, rfl, fun h => absurd h he, fun _ => rfl, by decide, Below.refl _ _⟩
end Go.Proofs.YtpmdcahomkdfmaaGreatDoor
