/-
  Contract of the reference's Parse.
  Contract of the reference's Parse, of texts that have the form.
  Contract of the reference's Parse, of any text.
-/
import Derived.Test.YtjhaoncganoaaaaGreatDoorDform
import Derived.Test.YtjhaoncganoaaaaGreatDoorDref
import Derived.Test.YtjhaoncganoaaaaGreatDoorAppi
set_option linter.unusedVariables false
set_option linter.unusedSimpArgs false
namespace Go.Proofs.YtjhaoncganoaaaaGreatDoor
open Go.RowKit

/-- The octets ahead of the exponent. -/
def cutE (xs : List Nat) : List Nat := xs.takeWhile (fun c => decide (c ≠ 101 ∧ c ≠ 69))
def tMan (xs : List Nat) : List Nat × Bool × Nat := mfold (cutE xs)
def tPow (xs : List Nat) : Bool × Nat := pfold (xs.drop ((cutE xs).length + 1))
def tNeg (xs : List Nat) : Bool := nth xs 0 == 45
def tVal (xs : List Nat) : Nat := dval (tMan xs).1
def tExp (xs : List Nat) : Int := (if (tPow xs).1 = true then -((tPow xs).2 : Int) else ((tPow xs).2 : Int)) - ((tMan xs).2.2 : Int)
theorem cutE_plain {ys : List Nat} (h : ∀ c ∈ ys, c = 45 ∨ c = 46 ∨ (48 ≤ c ∧ c ≤ 57)) : cutE ys = ys := by
  induction ys with
  | nil => rfl
  | cons c ys ih =>
    unfold cutE at ih ⊢
    have := h c (List.mem_cons_self ..)
    rw [List.takeWhile_cons_of_pos (by simp; omega), ih fun d hd => h d (List.mem_cons_of_mem _ hd)]
theorem cutE_at {ys : List Nat} (h : ∀ c ∈ ys, c = 45 ∨ c = 46 ∨ (48 ≤ c ∧ c ≤ 57)) {e : Nat} (he : e = 101 ∨ e = 69) (zs : List Nat) : cutE (ys ++ e :: zs) = ys := by
  induction ys with
  | nil =>
    unfold cutE
    rw [List.nil_append, List.takeWhile_cons_of_neg (by simp; omega)]
  | cons c ys ih =>
    unfold cutE at ih ⊢
    have := h c (List.mem_cons_self ..)
    rw [List.cons_append, List.takeWhile_cons_of_pos (by simp; omega), ih fun d hd => h d (List.mem_cons_of_mem _ hd)]
theorem pstep_le (st : Bool × Nat) (c : Nat) : st.2 ≤ (pstep st c).2 := by
  unfold pstep
  split
  · exact Nat.le_refl _
  · split
    · exact Nat.le_refl _
    · show st.2 ≤ st.2 * 10 + _; omega
theorem pfold_le (ys zs : List Nat) : (pfold ys).2 ≤ (pfold (ys ++ zs)).2 := by
  unfold pfold
  rw [List.foldl_append]
  generalize ys.foldl pstep (false, 0) = st
  induction zs generalizing st with
  | nil => exact Nat.le_refl _
  | cons c zs ih => exact Nat.le_trans (pstep_le st c) (ih _)
/-- How many digits of the exponent count. -/
def Cnt (v n : Nat) : Prop := v < 10 ^ n ∧ (n = 0 ∨ 10 ^ (n - 1) ≤ v)
theorem Cnt.zero : Cnt 0 0 := ⟨by decide, .inl rfl⟩
theorem Cnt.none {n : Nat} (h : Cnt 0 n) : n = 0 := by
  rcases h.2 with h | h
  · exact h
  · have := Nat.pow_pos (n := n - 1) (by omega : 0 < 10); omega
theorem Cnt.step {v n d : Nat} (h : Cnt v n) (hd : d ≤ 9) (hp : 0 < v ∨ 0 < d) : Cnt (v * 10 + d) (n + 1) := by
  refine ⟨by rw [Nat.pow_succ]; have := h.1; omega, .inr ?_⟩
  rw [Nat.add_sub_cancel]
  rcases h.2 with h0 | h0
  · subst h0
    have := h.1
    simp at this
    simp
    omega
  · obtain ⟨m, rfl⟩ : ∃ m, n = m + 1 := ⟨n - 1, by
      have := h.1
      rcases Nat.eq_zero_or_pos n with e | e
      · subst e; simp at this h0; omega
      · omega⟩
    rw [Nat.add_sub_cancel] at h0
    rw [Nat.pow_succ]
    omega
theorem Cnt.six {v n : Nat} (h : Cnt v n) (hn : n ≤ 6) : v < 1000000 := Nat.lt_of_lt_of_le h.1 (Nat.pow_le_pow_right (by omega) hn)
theorem Cnt.seven {v n : Nat} (h : Cnt v n) (hn : 6 < n) : 1000000 ≤ v := by
  rcases h.2 with h0 | h0
  · omega
  · exact Nat.le_trans (Nat.pow_le_pow_right (by omega : 0 < 10) (by omega : 6 ≤ n - 1)) h0

theorem one_new (w : World) (o : Obj) : (w.alloc o).heap[w.heap.size]? = some o := World.alloc_heap_new w o
set_option maxRecDepth 100000 in
set_option maxHeartbeats 4000000 in
theorem rDParse_bad (s : ByteArray) (w : World) (hs : s.size ≤ 9223372036854775807) (h : form (octs s) ≠ some s.size ∨ 2000 < s.size) :
    Calls Tryz.prog 12 #[.string s] w fun e w' => e = .returned (.tuple #[dv false none 0 0 0, .int .i64 (if form (octs s) = some s.size then 5 else 32)]) ∧ Below w.heap.size w w' := by
  have HH := Lib.hid h
  obtain ⟨E, hE⟩ : ∃ E : Int, Hid ((if form (octs s) = some s.size then 5 else 32) = E) := ⟨_, Lib.hid rfl⟩
  rw [hE.out]
  clear h
  have hb0 : ∀ o, Below w.heap.size w (w.alloc o) := fun o => (Below.refl _ w).alloc (Nat.le_refl _) o
  unfold dv
  go_enter Tryz.func12, Tryz.ntmps12
  go_wp2_with fail
  have m0 : (w.alloc (.cells #[.bool false, .slice none 0 0, .int .i64 0] 24)).heap[w.heap.size]? = some (.cells #[.bool false, .slice none 0 0, .int .i64 0] 24) := one_new _ _
  have hW := hb0 (.cells #[.bool false, .slice none 0 0, .int .i64 0] 24)
  generalize (w.alloc (.cells #[.bool false, .slice none 0 0, .int .i64 0] 24)) = W at m0 hW ⊢
  have y0 : W.cell? ⟨w.heap.size, 0, none⟩ = some (.bool false) := cell_of m0 rfl
  have y1 : W.cell? ⟨w.heap.size, 1, none⟩ = some (.slice none 0 0) := cell_of m0 rfl
  have y2 : W.cell? ⟨w.heap.size, 2, none⟩ = some (.int .i64 0) := cell_of m0 rfl
  have f0 := frozen_of 0 m0
  have f1 := frozen_of 1 m0
  have f2 := frozen_of 2 m0
  refine (Ends_c s W hs).mono ?_
  rintro e w' ⟨z, rfl, hz, rfl⟩
  clear hb0 m0
  by_cases hf : form (octs s) = some s.size
  · obtain rfl := hz _ hf
    have h2 : 2000 < s.size := HH.out.resolve_left (fun h => h hf)
    have HF := Lib.hid hf
    rw [hf]
    have hE5 : Hid (E = 5) := by show _ = _; rw [← hE.out, if_pos hf]
    clear hz hf
    go_wp2
    refine bodyPost_ret (v := .tuple #[.agg #[.bool false, .slice none 0 0, .int .i64 0], .int .i64 5]) (by simp [results, Tryz.results12, go_sem, y0, y1, y2]) rfl ?_
    exact ⟨by rw [hE5.out], ((hW.setCell (p := ⟨w.heap.size, 0, none⟩) (by simp) _).setCell (p := ⟨w.heap.size, 1, none⟩) (by simp) _).setCell (p := ⟨w.heap.size, 2, none⟩) (by simp) _⟩
  · have hE32 : Hid (E = 32) := by show _ = _; rw [← hE.out, if_neg hf]
    cases hff : form (octs s) with
    | none =>
      clear hz hf hff
      simp only [Option.isSome_none]
      go_wp2
      refine bodyPost_ret (v := .tuple #[.agg #[.bool false, .slice none 0 0, .int .i64 0], .int .i64 32]) (by simp [results, Tryz.results12, go_sem, y0, y1, y2]) rfl ?_
      exact ⟨by rw [hE32.out], ((hW.setCell (p := ⟨w.heap.size, 0, none⟩) (by simp) _).setCell (p := ⟨w.heap.size, 1, none⟩) (by simp) _).setCell (p := ⟨w.heap.size, 2, none⟩) (by simp) _⟩
    | some k =>
      obtain rfl := hz _ hff
      have hb : ((k : Int) != (s.size : Int)) = true := by
        rw [bne_iff_ne]
        intro e
        exact hf (by rw [hff]; exact congrArg some (by omega))
      clear hz hf hff
      simp only [Option.isSome_some]
      go_wp2
      refine bodyPost_ret (v := .tuple #[.agg #[.bool false, .slice none 0 0, .int .i64 0], .int .i64 32]) (by simp [results, Tryz.results12, go_sem, y0, y1, y2]) rfl ?_
      exact ⟨by rw [hE32.out], ((hW.setCell (p := ⟨w.heap.size, 0, none⟩) (by simp) _).setCell (p := ⟨w.heap.size, 1, none⟩) (by simp) _).setCell (p := ⟨w.heap.size, 2, none⟩) (by simp) _⟩
end Go.Proofs.YtjhaoncganoaaaaGreatDoor

namespace Go.Proofs.YtjhaoncganoaaaaGreatDoor
open Go.RowKit

theorem ResI.noCap {w : World} {base n c : Nat} {A : Option Addr} {zs : List Nat} (h : ResI w base A n c zs) (e : A = none) : c = 0 := by
  rcases h.form with ⟨_, _, h1⟩ | ⟨g, h1, _⟩
  · exact h1
  · rw [h1] at e; cases e
/-- What a text tells, settled. -/
def gE (xs : List Nat) : Nat := if 1000000 ≤ (tPow xs).2 then 52 else stE (tVal xs) (tExp xs)
def gN (xs : List Nat) : Bool := if 1000000 ≤ (tPow xs).2 then false else stN (tNeg xs) (tVal xs) (tExp xs)
def gX (xs : List Nat) : Int := if 1000000 ≤ (tPow xs).2 then 0 else stX (tVal xs) (tExp xs)
def gZ (xs : List Nat) : List Nat := if 1000000 ≤ (tPow xs).2 then [] else stZ (tVal xs) (tExp xs)
theorem g_small {xs : List Nat} (h : (tPow xs).2 < 1000000) : gE xs = stE (tVal xs) (tExp xs) ∧ gN xs = stN (tNeg xs) (tVal xs) (tExp xs) ∧ gX xs = stX (tVal xs) (tExp xs) ∧ gZ xs = stZ (tVal xs) (tExp xs) := by
  have : ¬ 1000000 ≤ (tPow xs).2 := by omega
  unfold gE gN gX gZ
  rw [if_neg this, if_neg this, if_neg this, if_neg this]
  exact ⟨rfl, rfl, rfl, rfl⟩
theorem g_big {xs : List Nat} (h : 1000000 ≤ (tPow xs).2) : gE xs = 52 ∧ gN xs = false ∧ gX xs = 0 ∧ gZ xs = [] := by
  unfold gE gN gX gZ
  rw [if_pos h, if_pos h, if_pos h, if_pos h]
  exact ⟨rfl, rfl, rfl, rfl⟩

set_option maxRecDepth 100000 in
set_option maxHeartbeats 8000000 in
theorem rDParse_good {M pw : List Nat} (s : ByteArray) (w : World) (hs : s.size ≤ 2000) (hf : form (octs s) = some s.size) (hM : octs s = M ++ pw) (hM0 : 0 < M.length) (hMc : ∀ c ∈ M, c = 45 ∨ c = 46 ∨ (48 ≤ c ∧ c ≤ 57))
    (hP : pw = [] ∨ ∃ e R, pw = e :: R ∧ (e = 101 ∨ e = 69) ∧ ∀ c ∈ R, c = 43 ∨ c = 45 ∨ (48 ≤ c ∧ c ≤ 57)) :
    Calls Tryz.prog 12 #[.string s] w fun e w' => ∃ A n c, e = .returned (.tuple #[dv (gN (octs s)) A n c (gX (octs s)), .int .i64 (gE (octs s) : Int)]) ∧ Res w' w.heap.size A n c (gZ (octs s)) ∧ Below w.heap.size w w' := by
  have HL := Lib.hid (octs_length s)
  have HM := Lib.hid hM
  have HMC := Lib.hid hMc
  have HP := Lib.hid hP
  have hML : M.length ≤ s.size := by rw [← HL.out, hM, List.length_append]; omega
  have HF := Lib.hid hf
  have hs0 : 0 < s.size := by omega
  obtain ⟨ML, hml⟩ : ∃ ML, Hid (M.length = ML) := ⟨_, Lib.hid rfl⟩
  rw [hml.out] at hML hM0
  obtain ⟨neg, hneg⟩ : ∃ b, ((s[0].toNat : Int) == 45) = b := ⟨_, rfl⟩
  have HN : Hid (tNeg (octs s) = neg) := by
    show _ = _
    unfold tNeg
    rw [← hneg, octs_get s 0 hs0, Bool.eq_iff_iff, beq_iff_eq, beq_iff_eq]
    omega
  clear hM hMc hP hf
  have hb0 : ∀ o1 o2, Below w.heap.size w ((w.alloc o1).alloc o2) := fun o1 o2 => ((Below.refl _ w).alloc (Nat.le_refl _) o1).alloc (by simp) o2
  unfold dv
  go_enter Tryz.func12, Tryz.ntmps12
  go_wp2_with fail
  refine (Ends_c s _ (by omega)).mono ?_
  rintro e w' ⟨z, rfl, hz, rfl⟩
  obtain rfl := hz _ HF.out
  rw [HF.out]
  clear hz
  go_wp2
  obtain ⟨m0, m1⟩ := two_new w (.cells #[.bool false, .slice none 0 0, .int .i64 0] 24) (.cells #[.bool neg, .slice none 0 0, .int .i64 0] 52)
  have hW := hb0 (.cells #[.bool false, .slice none 0 0, .int .i64 0] 24) (.cells #[.bool neg, .slice none 0 0, .int .i64 0] 52)
  have hsz : ((w.alloc (.cells #[.bool false, .slice none 0 0, .int .i64 0] 24)).alloc (.cells #[.bool neg, .slice none 0 0, .int .i64 0] 52)).heap.size = w.heap.size + 2 := by simp
  generalize ((w.alloc (.cells #[.bool false, .slice none 0 0, .int .i64 0] 24)).alloc (.cells #[.bool neg, .slice none 0 0, .int .i64 0] 52)) = W at m0 m1 hW hsz ⊢
  clear hb0
  go_loopw [7, 8, 9] (fun sv pv iv wr => ∃ (k nd cd e : Nat) (Ad : Option Addr) (ds : List Nat) (b : Bool) (x : Int), k ≤ ML ∧ iv = .int .i64 (k : Int) ∧ pv = .bool b ∧ sv = .slice Ad nd cd ∧ Hid (mfold (M.take k) = (ds, b, e)) ∧ Hid (x = -(e : Int)) ∧ -(k : Int) ≤ x ∧ x ≤ 0 ∧ nd ≤ k ∧ Hid (D10 ds) ∧
      ResI wr (w.heap.size + 2) Ad nd cd ds ∧ wr.heap[w.heap.size]? = some (.cells #[.bool false, .slice none 0 0, .int .i64 0] 24) ∧ wr.heap[w.heap.size + 1]? = some (.cells #[.bool neg, .slice none 0 0, .int .i64 x] 52) ∧ w.heap.size + 2 ≤ wr.heap.size ∧ Below w.heap.size w wr) (fun _ _ iv _ => s.size - (intOf iv).toNat)
  case atStart => exact ⟨0, 0, 0, 0, none, [], false, 0, Nat.zero_le _, rfl, rfl, rfl, Lib.hid (by simp [mfold_nil]), Lib.hid (by simp), by simp, by simp, Nat.le_refl _, Lib.hid D10.nil, ResI.nil _ _, m0, m1, by omega, hW⟩
  case round =>
    clear m0 m1 hsz hW
    obtain ⟨k, nd, cd, e, Ad, ds, b, x, hk, rfl, rfl, rfl, hmf, hx, hx1, hx2, hnd, hd10, hres, m0, m1, hsz, hbel⟩ := hrel
    by_cases hkM : k < ML
    · have hks : k < s.size := by omega
      have ho : nth M k = s[k].toNat := by rw [← octs_get s k hks, HM.out, nth_append_left (by rw [hml.out]; exact hkM)]
      have hin : nth M k ∈ M := by rw [nth_get (by rw [hml.out]; exact hkM)]; exact List.getElem_mem _
      have hcs := HMC.out _ hin
      have hst : Hid (mfold (M.take (k + 1)) = mstep (ds, b, e) (nth M k)) := by
        show _ = _
        rw [take_succ_nth (by rw [hml.out]; exact hkM), mfold_snoc, hmf.out]
      rw [ho] at hcs hst
      clear ho hin hmf
      by_cases h46 : s[k].toNat = 46
      · have hv : (s[k].toNat : Int) = 46 := by omega
        have hst2 : Hid (mfold (M.take (k + 1)) = (ds, true, e)) := by show _ = _; rw [hst.out, h46]; rfl
        clear hcs hst h46
        go_wp2
        exact ⟨⟨k + 1, nd, cd, e, Ad, ds, true, x, by omega, by go_num, rfl, rfl, hst2, hx, by omega, hx2, by omega, hd10, hres, m0, m1, hsz, hbel⟩, by simp [intOf]; omega⟩
      · by_cases h45 : s[k].toNat = 45
        · have hv : (s[k].toNat : Int) = 45 := by omega
          have hst2 : Hid (mfold (M.take (k + 1)) = (ds, b, e)) := by show _ = _; rw [hst.out, h45]; rfl
          clear hcs hst h46 h45
          go_wp2
          exact ⟨⟨k + 1, nd, cd, e, Ad, ds, b, x, by omega, by go_num, rfl, rfl, hst2, hx, by omega, hx2, by omega, hd10, hres, m0, m1, hsz, hbel⟩, by simp [intOf]; omega⟩
        · have hdg : 48 ≤ s[k].toNat ∧ s[k].toNat ≤ 57 := by omega
          obtain ⟨d1, d2⟩ := hdg
          have hst2 : Hid (mfold (M.take (k + 1)) = ((s[k].toNat - 48) :: ds, b, if b = true then e + 1 else e)) := by
            show _ = _
            rw [hst.out]; unfold mstep; rw [if_neg h46, if_neg h45]
          have b1 : ((s[k].toNat : Int) != 101) = true := by rw [bne_iff_ne]; omega
          have b2 : ((s[k].toNat : Int) != 69) = true := by rw [bne_iff_ne]; omega
          have b3 : ((s[k].toNat : Int) == 46) = false := by rw [beq_eq_false_iff_ne]; omega
          have b4 : ((s[k].toNat : Int) != 45) = true := by rw [bne_iff_ne]; omega
          obtain ⟨t, ht⟩ : ∃ t, t = s[k].toNat - 48 := ⟨_, rfl⟩
          rw [← ht] at hst2
          have hti : (s[k].toNat : Int) - 48 = (t : Int) := by omega
          have htb : t ≤ 9 := by omega
          have hi1 : 48 ≤ (s[k].toNat : Int) := by omega
          have hi2 : (s[k].toNat : Int) ≤ 57 := by omega
          have hd2 : Hid (D10 ([t] ++ ds)) := by show D10 _; exact D10.append.2 ⟨D10.cons.2 ⟨by omega, D10.nil⟩, hd10.out⟩
          clear hcs hst h46 h45 d1 d2 ht
          have hlit := ResI.lit wr [t] 1 rfl (LI.one (by omega)) (by omega)
          have hq1 : (i64s [t]).toArray = #[Value.int IntKind.i64 (t : Int)] := by simp [i64s]
          rw [hq1] at hlit
          have hrd1 : RdI (wr.alloc (.cells #[Value.int IntKind.i64 (t : Int)] 3)) (fun b => w.heap.size + 2 ≤ b ∧ b < wr.heap.size) Ad nd ds := hres.rd.below (B := wr.heap.size) ((Below.refl _ _).alloc (Nat.le_refl _) _) (fun b h => h.2)
          have hcn := hres.noCap
          clear hq1
          have hb1 : ∀ {w1 : World}, (wr.alloc (.cells #[Value.int IntKind.i64 (t : Int)] 3)).grownBy w1 (Value.slice (some ⟨wr.heap.size, 0, none⟩) 1 1).ownBlock → Below wr.heap.size wr w1 := fun hg1 => ((Below.refl _ wr).alloc (Nat.le_refl _) _).grown hg1 (by simp) (by intro q hq; simp [Value.ownBlock] at hq; omega)
          cases b
          all_goals
            go_wp2_with (at_builtin; refine wpList_append_ints rfl (.tmp 70) (.tmp 71) rfl wr.heap.size (some ⟨wr.heap.size, 0, none⟩) 1 1 [t] rfl hlit _ Ad nd cd ds rfl hrd1 hcn (by omega) (by simp) ?_; intro A1 c1 w1 hr1 hg1; have hbb := hb1 hg1; have q0 := held hbb (by omega) m0; have q1 := held hbb (by omega) m1; have p2 : w1.cell? ⟨w.heap.size + 1, 2, none⟩ = some (.int .i64 x) := cell_of q1 rfl; have fz := frozen_of 2 q1)
          · exact ⟨⟨k + 1, 1 + nd, c1, e, A1, [t] ++ ds, false, x, by omega, by go_num, rfl, rfl, hst2, hx, by omega, hx2, by omega, hd2, hr1.more hsz, q0, q1, by have := hbb.size; omega, hbel.trans (hbb.mono hbel.size)⟩, by simp [intOf]; omega⟩
          · refine ⟨⟨k + 1, 1 + nd, c1, e + 1, A1, [t] ++ ds, true, x - 1, by omega, by go_num, rfl, rfl, hst2, Lib.hid (by have := hx.out; omega), by omega, by omega, by omega, hd2, (hr1.more hsz).setOther (by simp) _, set_other q0 (by omega) _, (set_cells q1 _).trans (by simp), by have := hbb.size; simpa [World.setCell] using (by omega : w.heap.size + 2 ≤ w1.heap.size), (hbel.trans (hbb.mono hbel.size)).setCell (p := ⟨w.heap.size + 1, 2, none⟩) (by simp) _⟩, by simp [intOf]; omega⟩
    · obtain rfl : k = ML := by omega
      have hfold : Hid (mfold M = (ds, b, e)) := by
        show _ = _
        have := hmf.out
        rwa [List.take_of_length_le (by rw [hml.out]; exact Nat.le_refl _)] at this
      clear hmf hkM
      rcases HP.out with hp | ⟨e0, R, hp, he0, hR⟩
      · have hkk : Hid (s.size = k) := by show _ = _; rw [← HL.out, HM.out, hp, List.append_nil, hml.out]
        have hge : s.size ≤ k := by have := hkk.out; omega
        have hcut : Hid (cutE (octs s) = M) := by show _ = _; rw [HM.out, hp, List.append_nil]; exact cutE_plain HMC.out
        have hpow : Hid (tPow (octs s) = (false, 0)) := by
          show _ = _
          unfold tPow
          rw [hcut.out, List.drop_of_length_le (by rw [HL.out, hkk.out, hml.out]; omega)]
          rfl
        have hval : Hid (tVal (octs s) = dval ds) := by show _ = _; unfold tVal tMan; rw [hcut.out, hfold.out]
        have hexp : Hid (tExp (octs s) = x) := by show _ = _; unfold tExp tMan; rw [hcut.out, hfold.out, hpow.out, hx.out]; simp
        clear hp hfold hx hcut
        have z0 : wr.cell? ⟨w.heap.size + 1, 0, none⟩ = some (.bool neg) := cell_of m1 rfl
        have z1 : wr.cell? ⟨w.heap.size + 1, 1, none⟩ = some (.slice none 0 0) := cell_of m1 rfl
        have z2 : wr.cell? ⟨w.heap.size + 1, 2, none⟩ = some (.int .i64 x) := cell_of m1 rfl
        have fz := frozen_of 1 m1
        have hpl : (tPow (octs s)).2 < 1000000 := by rw [hpow.out]; omega
        go_wp2_with fail
        have hres2 := hres.setOther (p := ⟨w.heap.size + 1, 1, none⟩) (by simp) (.slice Ad nd cd)
        have hW2 := hbel.setCell (p := ⟨w.heap.size + 1, 1, none⟩) (by simp) (.slice Ad nd cd)
        have m2 := set_other (i := 1) m0 (by omega : w.heap.size ≠ w.heap.size + 1) (.slice Ad nd cd)
        have hs2 : w.heap.size + 2 ≤ (wr.setCell ⟨w.heap.size + 1, 1, none⟩ (.slice Ad nd cd)).heap.size := by simpa [World.setCell] using hsz
        generalize (wr.setCell ⟨w.heap.size + 1, 1, none⟩ (.slice Ad nd cd)) = W2 at hres2 hW2 m2 hs2 ⊢
        have hn2 := hres2.n_le
        unfold maxLen at hn2
        have HMd := Made_c neg (x) W2 hres2.rd (fun b h => h.2) hd10.out (by omega) hn2.1 (by omega) (by omega)
        unfold dv nv at HMd
        refine HMd.mono ?_
        rintro e w3 ⟨A3, n3, c3, rfl, hr3, hb3⟩
        have q0 := held hb3 (by omega) m2
        have y0 : w3.cell? ⟨w.heap.size, 0, none⟩ = some (.bool false) := cell_of q0 rfl
        have y1 : w3.cell? ⟨w.heap.size, 1, none⟩ = some (.slice none 0 0) := cell_of q0 rfl
        have y2 : w3.cell? ⟨w.heap.size, 2, none⟩ = some (.int .i64 0) := cell_of q0 rfl
        have f0 := frozen_of 0 q0
        have f1 := frozen_of 1 q0
        have f2 := frozen_of 2 q0
        obtain ⟨g1, g2, g3, g4⟩ := g_small (xs := octs s) hpl
        rw [hval.out, hexp.out] at g1 g3 g4
        rw [HN.out, hval.out, hexp.out] at g2
        have G1 := Lib.hid g1
        have G2 := Lib.hid g2
        have G3 := Lib.hid g3
        have G4 := Lib.hid g4
        have hlt : w.heap.size < W2.heap.size := by omega
        clear g1 g2 g3 g4 HMd
        go_wp2
        refine bodyPost_ret (v := .tuple #[.agg #[.bool (stN neg (dval ds) (x)), .slice A3 n3 c3, .int .i64 (stX (dval ds) (x))], .int .i64 (stE (dval ds) (x) : Int)]) (by simp [results, Tryz.results12, go_sem, y0, y1, y2]) rfl ?_
        rw [G1.out, G2.out, G3.out, G4.out]
        exact ⟨A3, n3, c3, rfl, (((hr3.setOther (p := ⟨w.heap.size, 0, none⟩) hlt _).setOther (p := ⟨w.heap.size, 1, none⟩) hlt _).setOther (p := ⟨w.heap.size, 2, none⟩) hlt _).more (by omega),
          (((hW2.trans (hb3.mono (by omega))).setCell (p := ⟨w.heap.size, 0, none⟩) (by simp) _).setCell (p := ⟨w.heap.size, 1, none⟩) (by simp) _).setCell (p := ⟨w.heap.size, 2, none⟩) (by simp) _⟩
      · have hks : k < s.size := by
          rw [← HL.out, HM.out, hp, List.length_append, hml.out, List.length_cons]; omega
        have hee : s[k].toNat = e0 := by
          rw [← octs_get s k hks, HM.out, hp, nth_append_right (by rw [hml.out]; exact Nat.le_refl _), hml.out, Nat.sub_self]; rfl
        have hRL : Hid (s.size = k + 1 + R.length) := by show _ = _; rw [← HL.out, HM.out, hp, List.length_append, hml.out, List.length_cons]; omega
        have hcut : Hid (cutE (octs s) = M) := by show _ = _; rw [HM.out, hp]; exact cutE_at HMC.out he0 R
        have hR1 : Hid (octs s = (M ++ [e0]) ++ R) := by show _ = _; rw [HM.out, hp, List.append_assoc]; rfl
        have hR2 : Hid ((M ++ [e0]).length = k + 1) := by show _ = _; rw [List.length_append, hml.out]; rfl
        have hpow : Hid (tPow (octs s) = pfold R) := by
          show _ = _
          unfold tPow
          rw [hcut.out, hR1.out, hml.out, ← hR2.out, List.drop_left]
        have hval : Hid (tVal (octs s) = dval ds) := by show _ = _; unfold tVal tMan; rw [hcut.out, hfold.out]
        have hman : Hid ((tMan (octs s)).2.2 = e) := by show _ = _; unfold tMan; rw [hcut.out, hfold.out]
        have HR := Lib.hid hR
        have hse : (s[k].toNat : Int) = 101 ∨ (s[k].toNat : Int) = 69 := by omega
        clear hp hfold hcut hee he0 hR
        rcases hse with hse | hse
        all_goals
          go_wp2
          clear hse
          go_loopw [9, 10, 11, 12] (fun iv dn ev cv wy => ∃ (q j v cnt : Nat) (d : Bool), Hid (q = k + 1 + j) ∧ q ≤ s.size ∧ iv = .int .i64 (q : Int) ∧ dn = .bool d ∧ ev = .int .i64 (v : Int) ∧ cv = .int .i64 (cnt : Int) ∧ Hid (pfold (R.take j) = (d, v)) ∧ Hid (Cnt v cnt) ∧ cnt ≤ 6 ∧ v < 1000000 ∧ wr = wy) (fun iv _ _ _ _ => s.size - (intOf iv).toNat)
          case atStart => exact ⟨k + 1, 0, 0, 0, false, Lib.hid rfl, hks, by go_num, rfl, rfl, rfl, Lib.hid rfl, Lib.hid Cnt.zero, by omega, by omega, rfl⟩
          case round =>
            obtain ⟨q, j, v, cnt, d, hq, hqs, rfl, rfl, rfl, rfl, hpf, hcn, hc6, hv6, hwq⟩ := hrel
            have hwq2 := hwq.symm
            clear hwq
            subst hwq2
            by_cases hqs2 : q < s.size
            · have hjR : j < R.length := by have := hq.out; have := hRL.out; omega
              have ho : nth R j = s[q].toNat := by
                rw [← octs_get s q hqs2, hR1.out, nth_append_right (by rw [hR2.out, hq.out]; omega), hR2.out, hq.out, show k + 1 + j - (k + 1) = j by omega]
              have hin : nth R j ∈ R := by rw [nth_get hjR]; exact List.getElem_mem _
              have hcs := HR.out _ hin
              have hst : Hid (pfold (R.take (j + 1)) = pstep (d, v) (nth R j)) := by
                show _ = _
                rw [take_succ_nth hjR, pfold_snoc, hpf.out]
              have hbig : Hid ((pfold (R.take (j + 1))).2 ≤ (pfold R).2) := by
                show _ ≤ _
                have := pfold_le (R.take (j + 1)) (R.drop (j + 1))
                rwa [List.take_append_drop] at this
              rw [ho] at hcs hst
              have hq2 : Hid (q + 1 = k + 1 + (j + 1)) := by show _ = _; have := hq.out; omega
              clear ho hin hpf hjR
              by_cases h45 : s[q].toNat = 45
              · have hv : (s[q].toNat : Int) = 45 := by omega
                have hst2 : Hid (pfold (R.take (j + 1)) = (true, v)) := by show _ = _; rw [hst.out, h45]; rfl
                clear hcs hst h45
                go_wp2
                exact ⟨⟨q + 1, j + 1, v, cnt, true, hq2, hqs2, by go_num, rfl, rfl, rfl, hst2, hcn, hc6, hv6, trivial⟩, by simp [intOf]; omega⟩
              · by_cases h43 : s[q].toNat = 43
                · have hv : (s[q].toNat : Int) = 43 := by omega
                  have hst2 : Hid (pfold (R.take (j + 1)) = (d, v)) := by show _ = _; rw [hst.out, h43]; rfl
                  clear hcs hst h45 h43
                  go_wp2
                  exact ⟨⟨q + 1, j + 1, v, cnt, d, hq2, hqs2, by go_num, rfl, rfl, rfl, hst2, hcn, hc6, hv6, trivial⟩, by simp [intOf]; omega⟩
                · obtain ⟨d1, d2⟩ : 48 ≤ s[q].toNat ∧ s[q].toNat ≤ 57 := by omega
                  have hst2 : Hid (pfold (R.take (j + 1)) = (d, v * 10 + (s[q].toNat - 48))) := by
                    show _ = _
                    rw [hst.out]; unfold pstep; rw [if_neg h45, if_neg h43]
                  obtain ⟨t, ht⟩ : ∃ t, t = s[q].toNat - 48 := ⟨_, rfl⟩
                  rw [← ht] at hst2
                  obtain ⟨v2, hv2⟩ : ∃ v2, Hid (v * 10 + t = v2) := ⟨_, Lib.hid rfl⟩
                  rw [hv2.out] at hst2
                  have htb : t ≤ 9 := by omega
                  have hv2b : v2 ≤ 10000000 := by have := hv2.out; omega
                  have hst3 : Hid (v2 ≤ (pfold R).2) := by show _ ≤ _; have := hbig.out; rwa [hst2.out] at this
                  have b3 : ((s[q].toNat : Int) == 45) = false := by rw [beq_eq_false_iff_ne]; omega
                  have b4 : ((s[q].toNat : Int) != 43) = true := by rw [bne_iff_ne]; omega
                  have hti : (s[q].toNat : Int) - 48 = (t : Int) := by omega
                  have hvi : 10 * (v : Int) + (t : Int) = (v2 : Int) := by have := hv2.out; omega
                  have hi1 : 48 ≤ (s[q].toNat : Int) := by omega
                  have hi2 : (s[q].toNat : Int) ≤ 57 := by omega
                  by_cases hz : v = 0 ∧ t = 0
                  · obtain ⟨hz1, hz2⟩ := hz
                    have b5 : ((s[q].toNat : Int) != 48) = false := by rw [bne_eq_false_iff_eq]; omega
                    have hv20 : v2 = 0 := by have := hv2.out; omega
                    have hcn2 : Hid (Cnt v2 cnt) := by show Cnt v2 cnt; rw [hv20, ← hz1]; exact hcn.out
                    have hvle : v ≤ 0 := by omega
                    have hv26 : v2 < 1000000 := by omega
                    clear hcs hst h45 h43 d1 d2 ht hz1 hz2 hv20 hbig
                    go_wp2
                    exact ⟨⟨q + 1, j + 1, v2, cnt, d, hq2, hqs2, by go_num, rfl, rfl, rfl, hst2, hcn2, hc6, hv26, trivial⟩, by simp [intOf]; omega⟩
                  · have hcn2 : Hid (Cnt v2 (cnt + 1)) := by
                      show Cnt v2 (cnt + 1)
                      rw [← hv2.out]; exact hcn.out.step htb (by omega)
                    have hvv : 0 < v ∨ (v ≤ 0 ∧ ((s[q].toNat : Int) != 48) = true) := by
                      rcases Nat.eq_zero_or_pos v with h | h
                      · exact .inr ⟨by omega, by rw [bne_iff_ne]; omega⟩
                      · exact .inl h
                    clear hcs hst h45 h43 d1 d2 ht hz hbig
                    by_cases h7 : cnt = 6
                    · have hbg : 1000000 ≤ (tPow (octs s)).2 := by rw [hpow.out]; exact Nat.le_trans (hcn2.out.seven (by omega)) hst3.out
                      obtain ⟨g1, g2, g3, g4⟩ := g_big hbg
                      have G1 := Lib.hid g1
                      have G2 := Lib.hid g2
                      have G3 := Lib.hid g3
                      have G4 := Lib.hid g4
                      have y0 : wr.cell? ⟨w.heap.size, 0, none⟩ = some (.bool false) := cell_of m0 rfl
                      have y1 : wr.cell? ⟨w.heap.size, 1, none⟩ = some (.slice none 0 0) := cell_of m0 rfl
                      have y2 : wr.cell? ⟨w.heap.size, 2, none⟩ = some (.int .i64 0) := cell_of m0 rfl
                      have f0 := frozen_of 0 m0
                      have f1 := frozen_of 1 m0
                      have f2 := frozen_of 2 m0
                      subst h7
                      clear g1 g2 g3 g4 hbg
                      rcases hvv with hvv | ⟨hvv, b5⟩
                      all_goals
                        go_wp2
                        refine bodyPost_ret (v := .tuple #[.agg #[.bool false, .slice none 0 0, .int .i64 0], .int .i64 52]) (by simp [results, Tryz.results12, go_sem, y0, y1, y2]) rfl ?_
                        rw [G1.out, G2.out, G3.out, G4.out]
                        exact ⟨none, 0, 0, rfl, Res.nil _ _, ((hbel.setCell (p := ⟨w.heap.size, 0, none⟩) (by simp) _).setCell (p := ⟨w.heap.size, 1, none⟩) (by simp) _).setCell (p := ⟨w.heap.size, 2, none⟩) (by simp) _⟩
                    · have hc5 : cnt + 1 ≤ 6 := by omega
                      have hv26 : v2 < 1000000 := hcn2.out.six hc5
                      clear h7
                      rcases hvv with hvv | ⟨hvv, b5⟩
                      all_goals
                        go_wp2
                        exact ⟨⟨q + 1, j + 1, v2, cnt + 1, d, hq2, hqs2, by go_num, rfl, rfl, by go_num, hst2, hcn2, hc5, hv26, trivial⟩, by simp [intOf]; omega⟩
            · have hge : s.size ≤ q := by omega
              have hjR : j = R.length := by have := hq.out; have := hRL.out; omega
              have hpw : Hid (tPow (octs s) = (d, v)) := by
                show _ = _
                have := hpf.out
                rw [hjR, List.take_length] at this
                rw [hpow.out, this]
              have hpl : (tPow (octs s)).2 < 1000000 := by rw [hpw.out]; exact hv6
              have z0 : wr.cell? ⟨w.heap.size + 1, 0, none⟩ = some (.bool neg) := cell_of m1 rfl
              have z1 : wr.cell? ⟨w.heap.size + 1, 1, none⟩ = some (.slice none 0 0) := cell_of m1 rfl
              have z2 : wr.cell? ⟨w.heap.size + 1, 2, none⟩ = some (.int .i64 x) := cell_of m1 rfl
              have fz1 := frozen_of 1 m1
              have fz2 := frozen_of 2 m1
              clear hqs2 hjR hpf
              cases d
              · obtain ⟨y, hy⟩ : ∃ y, x + (v : Int) = y := ⟨_, rfl⟩
                have hexp : Hid (tExp (octs s) = y) := by show _ = _; unfold tExp; rw [hman.out, hpw.out, ← hy]; have := hx.out; simp; omega
                have hy1 : -100000000 ≤ y ∧ y ≤ 100000000 := by omega
                have HPL := Lib.hid hpl
                clear hpl hpw
                go_wp2_with fail
                have hres2 := (hres.setOther (p := ⟨w.heap.size + 1, 2, none⟩) (by simp) (.int .i64 y)).setOther (p := ⟨w.heap.size + 1, 1, none⟩) (by simp) (.slice Ad nd cd)
                have hW2 := (hbel.setCell (p := ⟨w.heap.size + 1, 2, none⟩) (by simp) (.int .i64 y)).setCell (p := ⟨w.heap.size + 1, 1, none⟩) (by simp) (.slice Ad nd cd)
                have m2 := set_other (i := 1) (set_other (i := 2) m0 (by omega : w.heap.size ≠ w.heap.size + 1) (.int .i64 y)) (by omega : w.heap.size ≠ w.heap.size + 1) (.slice Ad nd cd)
                have hs2 : w.heap.size + 2 ≤ ((wr.setCell ⟨w.heap.size + 1, 2, none⟩ (.int .i64 y)).setCell ⟨w.heap.size + 1, 1, none⟩ (.slice Ad nd cd)).heap.size := by simpa [World.setCell] using hsz
                generalize ((wr.setCell ⟨w.heap.size + 1, 2, none⟩ (.int .i64 y)).setCell ⟨w.heap.size + 1, 1, none⟩ (.slice Ad nd cd)) = W2 at hres2 hW2 m2 hs2 ⊢
                have hn2 := hres2.n_le
                unfold maxLen at hn2
                have HMd := Made_c neg (y) W2 hres2.rd (fun b h => h.2) hd10.out (by omega) hn2.1 (by omega) (by omega)
                unfold dv nv at HMd
                refine HMd.mono ?_
                rintro e w3 ⟨A3, n3, c3, rfl, hr3, hb3⟩
                have q0 := held hb3 (by omega) m2
                have y0 : w3.cell? ⟨w.heap.size, 0, none⟩ = some (.bool false) := cell_of q0 rfl
                have y1 : w3.cell? ⟨w.heap.size, 1, none⟩ = some (.slice none 0 0) := cell_of q0 rfl
                have y2 : w3.cell? ⟨w.heap.size, 2, none⟩ = some (.int .i64 0) := cell_of q0 rfl
                have f0 := frozen_of 0 q0
                have f1 := frozen_of 1 q0
                have f2 := frozen_of 2 q0
                obtain ⟨g1, g2, g3, g4⟩ := g_small (xs := octs s) HPL.out
                rw [hval.out, hexp.out] at g1 g3 g4
                rw [HN.out, hval.out, hexp.out] at g2
                have G1 := Lib.hid g1
                have G2 := Lib.hid g2
                have G3 := Lib.hid g3
                have G4 := Lib.hid g4
                have hlt : w.heap.size < W2.heap.size := by omega
                clear g1 g2 g3 g4 HMd
                go_wp2
                refine bodyPost_ret (v := .tuple #[.agg #[.bool (stN neg (dval ds) (y)), .slice A3 n3 c3, .int .i64 (stX (dval ds) (y))], .int .i64 (stE (dval ds) (y) : Int)]) (by simp [results, Tryz.results12, go_sem, y0, y1, y2]) rfl ?_
                rw [G1.out, G2.out, G3.out, G4.out]
                exact ⟨A3, n3, c3, rfl, (((hr3.setOther (p := ⟨w.heap.size, 0, none⟩) hlt _).setOther (p := ⟨w.heap.size, 1, none⟩) hlt _).setOther (p := ⟨w.heap.size, 2, none⟩) hlt _).more (by omega),
                  (((hW2.trans (hb3.mono (by omega))).setCell (p := ⟨w.heap.size, 0, none⟩) (by simp) _).setCell (p := ⟨w.heap.size, 1, none⟩) (by simp) _).setCell (p := ⟨w.heap.size, 2, none⟩) (by simp) _⟩
              · obtain ⟨y, hy⟩ : ∃ y, x + -(v : Int) = y := ⟨_, rfl⟩
                have hexp : Hid (tExp (octs s) = y) := by show _ = _; unfold tExp; rw [hman.out, hpw.out, ← hy]; have := hx.out; simp; omega
                have hy1 : -100000000 ≤ y ∧ y ≤ 100000000 := by omega
                have HPL := Lib.hid hpl
                clear hpl hpw
                go_wp2_with fail
                have hres2 := (hres.setOther (p := ⟨w.heap.size + 1, 2, none⟩) (by simp) (.int .i64 y)).setOther (p := ⟨w.heap.size + 1, 1, none⟩) (by simp) (.slice Ad nd cd)
                have hW2 := (hbel.setCell (p := ⟨w.heap.size + 1, 2, none⟩) (by simp) (.int .i64 y)).setCell (p := ⟨w.heap.size + 1, 1, none⟩) (by simp) (.slice Ad nd cd)
                have m2 := set_other (i := 1) (set_other (i := 2) m0 (by omega : w.heap.size ≠ w.heap.size + 1) (.int .i64 y)) (by omega : w.heap.size ≠ w.heap.size + 1) (.slice Ad nd cd)
                have hs2 : w.heap.size + 2 ≤ ((wr.setCell ⟨w.heap.size + 1, 2, none⟩ (.int .i64 y)).setCell ⟨w.heap.size + 1, 1, none⟩ (.slice Ad nd cd)).heap.size := by simpa [World.setCell] using hsz
                generalize ((wr.setCell ⟨w.heap.size + 1, 2, none⟩ (.int .i64 y)).setCell ⟨w.heap.size + 1, 1, none⟩ (.slice Ad nd cd)) = W2 at hres2 hW2 m2 hs2 ⊢
                have hn2 := hres2.n_le
                unfold maxLen at hn2
                have HMd := Made_c neg (y) W2 hres2.rd (fun b h => h.2) hd10.out (by omega) hn2.1 (by omega) (by omega)
                unfold dv nv at HMd
                refine HMd.mono ?_
                rintro e w3 ⟨A3, n3, c3, rfl, hr3, hb3⟩
                have q0 := held hb3 (by omega) m2
                have y0 : w3.cell? ⟨w.heap.size, 0, none⟩ = some (.bool false) := cell_of q0 rfl
                have y1 : w3.cell? ⟨w.heap.size, 1, none⟩ = some (.slice none 0 0) := cell_of q0 rfl
                have y2 : w3.cell? ⟨w.heap.size, 2, none⟩ = some (.int .i64 0) := cell_of q0 rfl
                have f0 := frozen_of 0 q0
                have f1 := frozen_of 1 q0
                have f2 := frozen_of 2 q0
                obtain ⟨g1, g2, g3, g4⟩ := g_small (xs := octs s) HPL.out
                rw [hval.out, hexp.out] at g1 g3 g4
                rw [HN.out, hval.out, hexp.out] at g2
                have G1 := Lib.hid g1
                have G2 := Lib.hid g2
                have G3 := Lib.hid g3
                have G4 := Lib.hid g4
                have hlt : w.heap.size < W2.heap.size := by omega
                clear g1 g2 g3 g4 HMd
                go_wp2
                refine bodyPost_ret (v := .tuple #[.agg #[.bool (stN neg (dval ds) (y)), .slice A3 n3 c3, .int .i64 (stX (dval ds) (y))], .int .i64 (stE (dval ds) (y) : Int)]) (by simp [results, Tryz.results12, go_sem, y0, y1, y2]) rfl ?_
                rw [G1.out, G2.out, G3.out, G4.out]
                exact ⟨A3, n3, c3, rfl, (((hr3.setOther (p := ⟨w.heap.size, 0, none⟩) hlt _).setOther (p := ⟨w.heap.size, 1, none⟩) hlt _).setOther (p := ⟨w.heap.size, 2, none⟩) hlt _).more (by omega),
                  (((hW2.trans (hb3.mono (by omega))).setCell (p := ⟨w.heap.size, 0, none⟩) (by simp) _).setCell (p := ⟨w.heap.size, 1, none⟩) (by simp) _).setCell (p := ⟨w.heap.size, 2, none⟩) (by simp) _⟩
end Go.Proofs.YtjhaoncganoaaaaGreatDoor

namespace Go.Proofs.YtjhaoncganoaaaaGreatDoor
open Go.RowKit

/-- What any text tells. -/
def fGood (xs : List Nat) : Prop := form xs = some xs.length ∧ xs.length ≤ 2000
instance (xs : List Nat) : Decidable (fGood xs) := inferInstanceAs (Decidable (_ ∧ _))
def fE (xs : List Nat) : Nat := if fGood xs then gE xs else if form xs = some xs.length then 5 else 32
def fN (xs : List Nat) : Bool := if fGood xs then gN xs else false
def fX (xs : List Nat) : Int := if fGood xs then gX xs else 0
def fZ (xs : List Nat) : List Nat := if fGood xs then gZ xs else []

theorem rDParse_c (s : ByteArray) (w : World) (hs : s.size ≤ 9223372036854775807) :
    Calls Tryz.prog 12 #[.string s] w fun e w' => ∃ A n c, e = .returned (.tuple #[dv (fN (octs s)) A n c (fX (octs s)), .int .i64 (fE (octs s) : Int)]) ∧ Res w' w.heap.size A n c (fZ (octs s)) ∧ Below w.heap.size w w' := by
  have hl := octs_length s
  by_cases hg : fGood (octs s)
  · obtain ⟨hf, h2⟩ := id hg
    unfold fN fX fE fZ
    rw [if_pos hg, if_pos hg, if_pos hg, if_pos hg]
    obtain ⟨sg, wh, fr, pw, hp⟩ := form_parts hf
    refine rDParse_good (M := sg ++ (wh ++ fr)) (pw := pw) s w (by omega) (by rw [hf, hl]) ?_ ?_ (mant_octs hp) ?_
    · have := hp.eq
      rw [this]; simp
    · have := hp.wh.2
      rw [List.length_append, List.length_append]
      have : 0 < wh.length := List.length_pos_iff.2 this
      omega
    · rcases hp.pw with h | ⟨e, t, p, h1, h2, h3, h4, _⟩
      · exact .inl h
      · exact .inr ⟨e, t ++ p, h1, h2, pow_octs h3 h4⟩
  · have hb : form (octs s) ≠ some s.size ∨ 2000 < s.size := by
      by_cases hf : form (octs s) = some s.size
      · right
        refine Nat.lt_of_not_le fun h => hg ⟨by rw [hl]; exact hf, by omega⟩
      · exact .inl hf
    unfold fN fX fE fZ
    rw [if_neg hg, if_neg hg, if_neg hg, if_neg hg]
    refine (rDParse_bad s w hs hb).mono ?_
    rintro e w' ⟨rfl, h⟩
    refine ⟨none, 0, 0, ?_, Res.nil _ _, h⟩
    rw [hl]
    by_cases hf : form (octs s) = some s.size
    · rw [if_pos hf, if_pos hf]; rfl
    · rw [if_neg hf, if_neg hf]; rfl
end Go.Proofs.YtjhaoncganoaaaaGreatDoor
