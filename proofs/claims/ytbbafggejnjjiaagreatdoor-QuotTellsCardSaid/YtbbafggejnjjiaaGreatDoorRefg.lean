/-
  Contract of the reference's Quotient, of digits: quotient and rest, as one learns it.
-/
import Derived.Test.YtbbafggejnjjiaaGreatDoorNrefe
import Derived.Test.YtbbafggejnjjiaaGreatDoorDpar
set_option linter.unusedVariables false
set_option linter.unusedSimpArgs false
namespace Go.Proofs.YtbbafggejnjjiaaGreatDoor
open Go.RowKit

/-- The number in a cell. -/
def readI (w : World) (p : Addr) : Nat := match w.cell? p with | some (.int _ z) => z.toNat | _ => 0
theorem readI_at {w : World} {p : Addr} {k : IntKind} {x : Nat} (h : w.cell? p = some (.int k (x : Int))) : readI w p = x := by unfold readI; rw [h]; simp
theorem ResI.none_cap {w : World} {base n c : Nat} {A : Option Addr} {zs : List Nat} (h : ResI w base A n c zs) (e : A = none) : c = 0 := by
  rcases h.form with ⟨_, _, h1⟩ | ⟨g, h1, _⟩
  · exact h1
  · rw [h1] at e; cases e
/-- The digits of a quotient so far, the next one on its way. -/
theorem quo_step {xs ys rs qs : List Nat} {j V t r2 : Nat} (h : dval (xs.drop (j + 1)) = dval qs * dval ys + dval rs) (hV : V = nth xs j + 10 * dval rs) (ht : V = t * dval ys + r2) :
    dval (xs.drop j) = dval (t :: qs) * dval ys + r2 := by
  rw [dval_drop, h, dval_cons, Nat.add_mul, Nat.mul_add, Nat.mul_assoc]
  omega

set_option maxRecDepth 100000 in
set_option maxHeartbeats 2000000 in
theorem Quotient_c {S S' : Nat → Prop} {n m c d : Nat} {A B : Option Addr} {xs ys : List Nat} (w : World) (ha : RdI w S A n xs) (hb : RdI w S' B m ys) (hS : ∀ b, S b → b < w.heap.size) (hS' : ∀ b, S' b → b < w.heap.size) (hx : D10 xs) (hy : DCan ys) (hy0 : 0 < dval ys) (hn : n ≤ 10000) (hm : m ≤ 10000) :
    Calls Tryz.prog 62 #[.slice A n c, .slice B m d] w fun e w' => ∃ A1 n1 c1 A2 n2 c2 qs rs, e = .returned (.tuple #[.slice A1 n1 c1, .slice A2 n2 c2]) ∧ ResI w' w.heap.size A1 n1 c1 qs ∧ ResI w' w.heap.size A2 n2 c2 rs ∧ DCan qs ∧ DCan rs ∧
      dval xs = dval qs * dval ys + dval rs ∧ dval rs < dval ys ∧ n1 ≤ 10000 ∧ n2 ≤ 10000 ∧ Below w.heap.size w w' := by
  have HL := Lib.hid ha.len
  have HM := Lib.hid hb.len
  have HX := Lib.hid hx
  have HY := Lib.hid hy
  have HY0 := Lib.hid hy0
  clear hx hy hy0
  have hmk := fun W => makeI_at (z := (n : Int)) n rfl (by omega) W
  have hylt : Hid (dval ys < dp m) := by have := dval_lt HY.out.1; rwa [HM.out] at this
  go_enter Tryz.func62, Tryz.ntmps62
  go_wp2
  clear hmk
  go_loopw [7, 8] (fun rv iv wr => ∃ (k nr cr : Nat) (Ar : Option Addr) (rs qs : List Nat), k ≤ n ∧ iv = .int .i64 ((k : Int) - 1) ∧ rv = .slice Ar nr cr ∧ ResI wr (w.heap.size + 1) Ar nr cr rs ∧ Hid (DCan rs) ∧ Hid (dval rs < dval ys) ∧ D10 qs ∧ Hid (qs.length = n - k) ∧
      Hid (dval (xs.drop k) = dval qs * dval ys + dval rs) ∧ ResI wr w.heap.size (some ⟨w.heap.size, 0, none⟩) n n (List.replicate k 0 ++ qs) ∧ w.heap.size + 1 ≤ wr.heap.size ∧ Below w.heap.size w wr) (fun _ iv _ => (intOf iv + 1).toNat)
  case atStart =>
    refine ⟨n, 0, 0, none, [], [], Nat.le_refl _, rfl, rfl, ResI.nil _ _, DCan.nil, ?_, D10.nil, ?_, ?_, ?_, ?_, (Below.refl _ _).alloc (Nat.le_refl _) _⟩
    · show _ < _
      exact HY0.out
    · show _ = _
      rw [Nat.sub_self]; rfl
    · show _ = _
      rw [List.drop_of_length_le (by rw [HL.out]; exact Nat.le_refl _)]; simp [dval]
    · rw [List.append_nil]; exact ResI.made w n (by omega)
    · simp
  case round =>
    obtain ⟨k, nr, cr, Ar, rs, qs, hk, rfl, rfl, hrr, hrc, hrl, hqs, hql, hval, hqr, hsz, hbel⟩ := hrel
    have hnr : nr ≤ m := by
      have := hrc.out.len_le (Nat.lt_trans hrl.out hylt.out)
      rwa [hrr.len] at this
    by_cases h0 : k = 0
    · subst h0
      rw [List.replicate_zero, List.nil_append] at hqr
      have HV : Hid (dval xs = dval qs * dval ys + dval rs) := by have := hval.out; rwa [List.drop_zero] at this
      clear hval
      go_wp2_with fail
      refine (rTrim_own wr hqr).mono ?_
      rintro e w1 ⟨rfl, hres1, rfl⟩
      go_wp2
      go_ret2
      refine ⟨_, _, _, _, _, _, trimmed qs, rs, rfl, hres1, hrr.more (by omega), trimmed_dcan hqs, hrc.out, ?_, hrl.out, Nat.le_trans (tl_le _ _) hn, by omega, hbel⟩
      rw [trimmed_dval]
      exact HV.out
    · obtain ⟨j, rfl⟩ : ∃ j, k = j + 1 := ⟨k - 1, by omega⟩
      have hlt : j < n := by omega
      obtain ⟨b, off, rfl, hSb, hcell0⟩ := ha.at_ (k := j) hlt
      have hcell : wr.cell? ⟨b, off + j, none⟩ = some (.int .i64 (nth xs j : Int)) := (hbel.cell (p := ⟨b, off + j, none⟩) (hS _ hSb)).trans hcell0
      have hx9 := dth_lt HX.out j
      clear h0
      have hlit := ResI.lit wr [nth xs j] 1 rfl (LI.one (by omega)) (by omega)
      have hq1 : (i64s [nth xs j]).toArray = #[Value.int IntKind.i64 (nth xs j : Int)] := by simp [i64s]
      rw [hq1] at hlit
      have hrd1 : RdI (wr.alloc (.cells #[Value.int IntKind.i64 (nth xs j : Int)] 3)) (fun b => w.heap.size + 1 ≤ b ∧ b < wr.heap.size) Ar nr rs := hrr.rd.below (B := wr.heap.size) ((Below.refl _ _).alloc (Nat.le_refl _) _) (fun b h => h.2)
      have hcn := hrr.none_cap
      clear hq1
      go_wp2_with (at_builtin; refine wpList_append_ints rfl (.tmp 23) (.tmp 24) rfl wr.heap.size (some ⟨wr.heap.size, 0, none⟩) 1 1 [nth xs j] rfl hlit _ Ar nr cr rs rfl hrd1 hcn (by omega) (by simp) ?_; intro A1 c1 w1 hr1 hg1)
      have hdc : Hid (DCan (trimmed ([nth xs j] ++ rs))) := trimmed_dcan (D10.append.2 ⟨D10.cons.2 ⟨hx9, D10.nil⟩, hrc.out.1⟩)
      have hdv : Hid (dval (trimmed ([nth xs j] ++ rs)) = nth xs j + 10 * dval rs) := (trimmed_dval _).trans (dval_cons _ _)
      have hqr1 : ResI w1 w.heap.size (some ⟨w.heap.size, 0, none⟩) n n (List.replicate (j + 1) 0 ++ qs) :=
        (hqr.below (B := wr.heap.size) ((Below.refl _ _).alloc (Nat.le_refl _) _) (Nat.le_refl _)).grown hg1 (fun g e => by
          injection e with e; injection e with e
          simp [Value.ownBlock]; omega)
      rw [List.replicate_succ', List.append_assoc, List.singleton_append] at hqr1
      have hbel1 : Below w.heap.size w w1 := (hbel.alloc hbel.size _).grown hg1 (by simp; have := hbel.size; omega) (by intro q hq; simp [Value.ownBlock] at hq; omega)
      have hsz1 : w.heap.size + 1 ≤ w1.heap.size := by have := hg1.size; simp at this; omega
      have hr1' := hr1.more (base' := w.heap.size + 1) hsz
      clear hcell hcell0 hlit hrd1 hcn hg1 hr1 hqr hbel hrr hsz
      go_wp2_with fail
      refine (rTrim_own w1 hr1').mono ?_
      rintro e w2 ⟨rfl, hr2, rfl⟩
      generalize trimmed ([nth xs j] ++ rs) = rs1 at hdc hdv hr2
      generalize tl ([nth xs j] ++ rs) (1 + nr) = n1 at hr2
      clear hr1'
      have HJ : Hid ((List.replicate j 0).length = j) := List.length_replicate ..
      go_wp2
      go_loopw [7] (fun rv wr => ∃ (t n2 c2 : Nat) (A2 : Option Addr) (rs2 : List Nat), rv = .slice A2 n2 c2 ∧ ResI wr (w.heap.size + 1) A2 n2 c2 rs2 ∧ Hid (DCan rs2) ∧ t ≤ 9 ∧ Hid (nth xs j + 10 * dval rs = t * dval ys + dval rs2) ∧
        ResI wr w.heap.size (some ⟨w.heap.size, 0, none⟩) n n (List.replicate j 0 ++ (t :: qs)) ∧ w.heap.size + 1 ≤ wr.heap.size ∧ Below w.heap.size w wr) (fun _ wr => 10 - readI wr ⟨w.heap.size, j, none⟩)
      case atStart => exact ⟨0, n1, c1, A1, rs1, rfl, hr2, hdc, by omega, by show _ = _; rw [hdv.out]; omega, hqr1, hsz1, hbel1⟩
      case round =>
        clear hr2 hqr1 hbel1 hsz1 hdc hdv
        obtain ⟨t, n2, c2, A2, rs2, rfl, hr2, hdc, ht9, hV, hqr, hsz, hbel⟩ := hrel
        have hvlt : dval rs2 < 10 * dval ys := by
          have h1 := hV.out
          have h2 := hrl.out
          omega
        have hn2 : n2 ≤ m + 1 := by
          have h1 := hylt.out
          have h2 := dp_succ m
          have := hdc.out.len_le (m := m + 1) (by show _ < dp (m + 1); omega)
          rwa [hr2.len] at this
        have hcq : wr.cell? ⟨w.heap.size, j, none⟩ = some (.int .i64 (t : Int)) := by
          rw [hqr.cell (by omega), nth_snoc _ _ _ HJ.out.symm]
        have hfr : wr.frozen? ⟨w.heap.size, j, none⟩ = false := hqr.frozen _
        have hO := Order_c (c := c2) (d := d) wr hr2.rd (hb.below hbel hS') hdc.out HY.out (by omega) (by omega)
        by_cases hlt2 : dval rs2 < dval ys
        · rw [dcmp_lt hlt2] at hO
          have HO := Lib.hid hO
          have HLT := Lib.hid hlt2
          clear hO hlt2 hvlt
          go_wp2_with fail
          refine HO.out.mono ?_
          rintro e w3 ⟨rfl, q, rfl⟩
          go_wp2
          refine ⟨⟨j, n2, c2, A2, rs2, t :: qs, by omega, by go_num, rfl, hr2.drewN q, hdc, HLT, D10.cons.2 ⟨by omega, hqs⟩, ?_, ?_, hqr.drewN q, hsz, below_drewN hbel q⟩, by simp [intOf]⟩
          · show _ = _
            rw [List.length_cons, hql.out]; omega
          · exact Lib.hid (quo_step hval.out rfl hV.out)
        · have hge : 0 ≤ dcmp rs2 ys := by unfold dcmp; rw [if_neg hlt2]; split <;> omega
          obtain ⟨z, hz⟩ : ∃ z, z = dcmp rs2 ys := ⟨_, rfl⟩
          rw [← hz] at hO hge
          have ht8 : t ≤ 8 := by
            have h1 := hV.out
            have h2 := hrl.out
            rcases Nat.lt_or_ge 8 t with h3 | h3
            · have h4 : 9 * dval ys ≤ t * dval ys := Nat.mul_le_mul_right _ h3
              omega
            · exact h3
          have HO := Lib.hid hO
          have HGE : Hid (dval ys ≤ dval rs2) := Nat.le_of_not_lt hlt2
          clear hO hlt2 hvlt hz
          go_wp2_with fail
          refine HO.out.mono ?_
          rintro e w3 ⟨rfl, q, rfl⟩
          go_wp2_with fail
          refine (Minus_c (wr.drewN q) (hr2.rd.drewN q) ((hb.below hbel hS').drewN q) (fun b h => h.2) (fun b h => by have := hS' b h; have := hbel.size; simp; omega) hdc.out.1 HY.out HGE.out (by omega) (by omega)).mono ?_
          rintro e w4 ⟨A4, n4, c4, os, rfl, hr4, hc4, hv4, hb4⟩
          have HC4 := Lib.hid hc4
          have HV4 := Lib.hid hv4
          clear hc4 hv4
          have hqr4 := (hqr.drewN q).below hb4 (Nat.le_refl _)
          have hcq4 : w4.cell? ⟨w.heap.size, j, none⟩ = some (.int .i64 (t : Int)) := by
            rw [hqr4.cell (by omega), nth_snoc _ _ _ HJ.out.symm]
          have hfr4 : w4.frozen? ⟨w.heap.size, j, none⟩ = false := hqr4.frozen _
          have hs4 : wr.heap.size ≤ w4.heap.size := hb4.size
          have hbel4 : Below w.heap.size w w4 := (below_drewN hbel q).trans (hb4.mono hbel.size)
          go_wp2
          have hset := hqr4.set (j := j) (x := t + 1) (by omega)
          rw [set_snoc _ _ _ _ HJ.out.symm, List.append_assoc, List.singleton_append] at hset
          refine ⟨⟨t + 1, n4, c4, A4, os, rfl, ?_, HC4, by omega, ?_, ?_, ?_, ?_⟩, ?_⟩
          · refine (hr4.more (base' := w.heap.size + 1) (by simpa using hsz)).grown (row := some w.heap.size) (only_set (World.grownBy.refl w4 _) _ _) (fun g1 e1 e2 => ?_)
            injection e2 with e2
            rcases hr4.form with ⟨h1, _⟩ | ⟨g3, h1, h2, _⟩
            · rw [h1] at e1; cases e1
            · rw [h1] at e1; injection e1 with e1; injection e1 with e1
              simp at h2
              omega
          · show _ = _
            rw [hV.out, Nat.add_mul, ← HV4.out]; omega
          · exact hset
          · simp [World.setCell]; omega
          · exact hbel4.setCell (Nat.le_refl _) _
          · have h1 := readI_at hcq
            have h2 : readI (w4.setCell ⟨w.heap.size, j, none⟩ (.int .i64 ((t + 1 : Nat) : Int))) ⟨w.heap.size, j, none⟩ = t + 1 := by
              refine readI_at (k := IntKind.i64) ?_
              have h3 := hset.cell (j := j) (by omega)
              rwa [nth_snoc _ _ _ HJ.out.symm] at h3
            have e : ((t + 1 : Nat) : Int) = (t : Int) + 1 := by omega
            rw [e] at h2
            rw [h1, h2]
            omega
end Go.Proofs.YtbbafggejnjjiaaGreatDoor
