/-
  Contracts of nat.groups and nat.Print: the decimal digits of a number.
-/
import Derived.Test.YtecpapkffinlbaaIterb
import Derived.Test.YtecpapkffinlbaaByte
import Derived.Test.YtecpapkffinlbaaDigb
import Derived.Maps.OwnIn
import Derived.Laws.BytesArg
set_option linter.unusedVariables false
set_option linter.unusedSimpArgs false
namespace Go.Proofs.Ytecpapkffinlbaa
open Go.RowKit
attribute [local go_sem] Oper.semAt_some

theorem groups_c (A : Option Addr) (n c : Nat) (w : World) :
    Calls Try.prog 28 #[.slice A n c] w fun e w' => e = .returned (.func (.func 40) #[] #[.pointer (some ⟨w.heap.size, 0, none⟩)]) ∧ w.alloc (.cells #[.slice A n c] 22) = w' := by
  have hmf : ∀ (fn : Fn) (first cap : Array Value) (w : World), (Instr.makeFunc fn first cap).run Try.prog w = .ok (.func fn first cap) w := fun _ _ _ _ => rfl
  go_enter Try.func28, Try.ntmps28
  go_wp2
  go_ret
  exact ⟨rfl, rfl⟩

theorem Print_err {S : Nat → Prop} {n c : Nat} {A : Option Addr} {xs : List Nat} (w : World) (ha : Rd w S A n xs) (hn : n ≤ 9223372036854775807) (he : chk xs ≠ 0) :
    Calls Try.prog 15 #[.slice A n c] w fun e w' => e = .returned (.tuple #[.string ⟨#[]⟩, .int .i64 (chk xs : Int)]) ∧ w = w' := by
  have h1 := Check_c (c := c) w ha hn
  have hb : (((chk xs : Nat) : Int) != 0) = true := by rw [bne_iff_ne]; omega
  have H1 := Lib.hid h1
  clear h1 he
  go_enter Try.func15, Try.ntmps15
  go_wp2_with fail
  refine H1.out.mono ?_
  rintro e w' ⟨rfl, rfl⟩
  go_wp2
  go_ret2
  exact ⟨rfl, rfl⟩

theorem chk_can {xs : List Nat} (h : Can xs) (hl : xs.length ≤ 256) : chk xs = 0 := by
  unfold chk
  rw [if_neg (by omega), if_neg]
  rintro ⟨h1, h2⟩
  rcases h.2 with e | e
  · rw [e] at h1; simp at h1
  · exact e h2

theorem gL_lt {v x : Nat} {pre rest : List Nat} : gL v = pre ++ x :: rest → x < 1000000000 := by
  intro h
  have hm : x ∈ gL v := by rw [h]; simp
  have key : ∀ f u, ∀ y ∈ gOf f u, y < 1000000000 := by
    intro f
    induction f with
    | zero => intro u y hy; simp [gOf] at hy
    | succ f ih =>
      intro u y hy
      unfold gOf at hy
      split at hy
      · simp at hy
      · rcases List.mem_cons.1 hy with h | h
        · omega
        · exact ih _ _ h
  exact key _ _ _ hm
theorem gval_gL (v : Nat) : gval (gL v) = v := by
  induction v using Nat.strongRecOn with
  | _ v ih =>
    rcases Nat.eq_zero_or_pos v with h | h
    · subst h; rfl
    · rw [gL_pos h, gval, ih _ (by omega)]; omega
theorem gL_length {v k : Nat} (h : v < 1000000000 ^ k) : (gL v).length ≤ k := by
  induction k generalizing v with
  | zero => simp at h; subst h; simp [gL_zero]
  | succ k ih =>
    rcases Nat.eq_zero_or_pos v with h0 | h0
    · subst h0; simp [gL_zero]
    · rw [gL_pos h0, List.length_cons]
      have := ih (v := v / 1000000000) (by rw [Nat.pow_succ] at h; exact Nat.div_lt_of_lt_mul (by rw [Nat.mul_comm]; exact h))
      omega
theorem two_pow_lt {j m : Nat} (h : j ≤ 29 * m) (hm : m ≠ 0) : 2 ^ j < 1000000000 ^ m := by
  have h2 : 2 ^ j ≤ (2 ^ 29) ^ m := by rw [← Nat.pow_mul]; exact Nat.pow_le_pow_right (by omega) h
  exact Nat.lt_of_le_of_lt h2 (Nat.pow_lt_pow_left (by decide) hm)
theorem bp_lt_g {n v : Nat} (h : n ≤ 256) (hv : v < bp n) : ∃ m, m ≤ 283 ∧ v < 1000000000 ^ m := by
  obtain ⟨m, hm⟩ : ∃ m, m = 283 := ⟨_, rfl⟩
  refine ⟨m, by omega, ?_⟩
  have h1 : bp n = 2 ^ (32 * n) := by unfold bp; rw [Nat.pow_mul]
  rw [h1] at hv
  exact Nat.lt_trans hv (two_pow_lt (by omega) (by omega))

/-- Digits as octets. -/
def chars (ds : List Nat) : List Nat := ds.map (· + 48)
theorem chars_snoc (ds : List Nat) (d : Nat) : chars (ds ++ [d]) = chars ds ++ [d + 48] := by simp [chars]
theorem chars_l8 {ds : List Nat} (h : D10 ds) : L8 (chars ds) := fun x hx => by
  obtain ⟨d, hd, rfl⟩ := List.mem_map.1 hx
  have := h d hd
  omega

theorem str_txt (xs : List Nat) : strOfNums (xs.map fun (x : Nat) => (x : Int)) = txt xs := by
  simp [strOfNums, txt, Function.comp_def]
theorem chars_get {ds : List Nat} {k : Nat} (h : k < ds.length) : nth (chars ds) k = nth ds k + 48 := by
  unfold chars
  rw [nth_get (by simpa using h), nth_get h]; simp
theorem tl_pos_of {ds : List Nat} (h : 0 < dval ds) : 0 < tl ds ds.length := by
  rcases Nat.eq_zero_or_pos (tl ds ds.length) with e | e
  · have h1 := trimmed_dval ds
    have h2 : trimmed ds = [] := by unfold trimmed; rw [e, List.take_zero]
    rw [h2, dval_nil] at h1
    omega
  · exact e

/-- A row of octets made a text. -/
theorem conv_txt {X : World} {base g n c : Nat} {zs : List Nat} (h : ResB X base (some ⟨g, 0, none⟩) n c zs) : (convert 54 9 (.slice (some ⟨g, 0, none⟩) n c)).run Try.prog X = .ok (.string (txt zs)) X := by
  have h1 := run_convert_bytes_arg (P := Try.prog) X 54 5 Try.underlying54 Try.underlying5 g 0 n c (zs.map fun (x : Nat) => (x : Int)) (by simp [h.len]) (fun i hi => by
    rw [Nat.zero_add, h.cell hi]
    have hl : i < zs.length := by rw [h.len]; exact hi
    simp [nth_get hl, hl]) 9 Try.underlying9
  rw [str_txt] at h1
  exact h1

set_option maxRecDepth 100000 in
theorem Print_ok {S : Nat → Prop} {n c : Nat} {A : Option Addr} {xs : List Nat} (w : World) (ha : Rd w S A n xs) (hS : ∀ b, S b → b < w.heap.size) (hcan : Can xs) (hn : n ≤ 256) :
    Calls Try.prog 15 #[.slice A n c] w fun e w' => ∃ s, e = .returned (.tuple #[.string s, .int .i64 0]) ∧ IsDec (val xs) s ∧ Below w.heap.size w w' := by
  have hl := ha.len
  have h1 := Check_c (c := c) w ha (by omega)
  rw [chk_can hcan (by omega)] at h1
  have H1 := Lib.hid h1
  clear h1
  by_cases h0 : n = 0
  · subst h0
    have hx : xs = [] := List.eq_nil_of_length_eq_zero hl
    have hd : IsDec (val xs) (txt [48]) := .inl ⟨by rw [hx]; rfl, rfl⟩
    clear hx hl
    go_enter Try.func15, Try.ntmps15
    go_wp2_with fail
    refine H1.out.mono ?_
    rintro e w' ⟨rfl, rfl⟩
    go_wp2
    go_ret2
    exact ⟨_, rfl, hd, Below.refl _ _⟩
  · have hne : ((n : Int) == 0) = false := by rw [beq_eq_false_iff_ne]; omega
    have hpos : 0 < val xs := by
      rcases Nat.eq_zero_or_pos (val xs) with h | h
      · have := hcan.val_zero h
        rw [this] at hl
        exact absurd hl.symm h0
      · exact h
    have HL := Lib.hid hl
    clear hl
    refine (callsIn_wide (n := 0)).1 ?_
    refine callsIn_of_wp_marks Try.func15 rfl trivial ?_ rfl
    simp only [Try.ntmps15, List.size_toArray, List.length_cons, List.length_nil, Nat.reduceAdd, Nat.reduceSub, Array.replicate_succ, Array.replicate_zero, List.push_toArray, List.append_toArray, List.nil_append, List.cons_append]
    gi_wp2_with (first
      | (refine ⟨trivial, rfl, ?_⟩; gi_at_call 22; refine (callsIn_wide.2 H1.out).mono ?_; rintro e w' ⟨rfl, rfl⟩)
      | (refine ⟨trivial, rfl, ?_⟩; gi_at_call 28; refine (callsIn_wide.2 (groups_c _ _ _ _)).mono ?_; rintro e w' ⟨rfl, rfl⟩))
    obtain ⟨W0, hW0⟩ : ∃ W0, (w.alloc (.cells #[.slice none 0 0] 54)).alloc (.cells #[.slice A n c] 22) = W0 := ⟨_, rfl⟩
    rw [hW0]
    have hz : W0.heap.size = w.heap.size + 2 := by rw [← hW0]; simp
    have hb0 : Below w.heap.size w W0 := by rw [← hW0]; exact ((Below.refl _ _).alloc (Nat.le_refl _) _).alloc (by simp) _
    have bO : Boxed W0 w.heap.size 54 (.slice none 0 0) := by
      rw [← hW0]
      exact (Boxed.new w 54 (.slice none 0 0)).alloc _
    have bA : Boxed W0 (w.heap.size + 1) 22 (.slice A n c) := by
      rw [← hW0]
      have h := Boxed.new (w.alloc (.cells #[.slice none 0 0] 54)) 22 (.slice A n c)
      rwa [World.size_alloc] at h
    clear hW0
    have hglen : (gL (val xs)).length ≤ 283 := by
      obtain ⟨m, hm, hv⟩ := bp_lt_g (v := val xs) hn (by have := val_lt hcan.l32; rwa [HL.out] at this)
      have := gL_length hv
      omega
    refine range_law (gf := 40) (lb := #[.pointer (some ⟨w.heap.size + 1, 0, none⟩)]) rfl (enters_of Try.func40 (by kernel_rfl) rfl) (encs := encu) (xs := gL (val xs)) (keep := fun _ => False)
      (fun W hW => groups1_iter W ((hW.cell (p := ⟨w.heap.size + 1, 0, none⟩) (by show w.heap.size + 1 < W0.heap.size; omega)).trans bA.cell)
        ((ha.below hb0 hS).below hW (fun b h => by have := hS b h; omega)) (fun b h => by have := hS b h; have := hW.size; omega) hcan (by omega))
      (fun _ => rfl) (fun k hk => hk.elim)
      (fun r pre W => ∃ (A' : Option Addr) (n' c' : Nat) (ds : List Nat), Boxed W w.heap.size 54 (.slice A' n' c') ∧ ResB W w.heap.size A' n' c' (chars ds) ∧ D10 ds ∧ Hid (n' = 9 * pre.length) ∧ Hid (dval ds = gval pre) ∧ Below w.heap.size w W ∧ (∀ g, A' = some ⟨g, 0, none⟩ → g ≠ w.heap.size ∧ ∀ k, r = some k → g ≠ k))
      ?_ ?_ ?_ ?_
    · rintro r pre X Y row ⟨A', n', c', ds, h1, h2, h3, h4, h5, h6, h7⟩ hg hr
      refine ⟨A', n', c', ds, h1.kept hg (fun e => by have := (hr _ e.symm).1; omega), h2.keep (fun g e => ?_), h3, h4, h5, h6.grown hg h6.size (fun k e => by have := (hr k e).1; omega), h7⟩
      rcases h2.form with ⟨h, _⟩ | ⟨g', h, _, hlt⟩
      · rw [h] at e; cases e
      · obtain rfl : g' = g := by rw [h] at e; injection e with e; injection e
        refine hg.block g' hlt (fun e' => ?_)
        rcases (hr g' e'.symm).2 with h8 | ⟨o, ho, hc⟩
        · exact (h7 g' e).2 g' h8 rfl
        · rcases h2.own.2 with ⟨e2, _⟩ | ⟨g2, cap, cur, e2, _, hh, _⟩
          · injection e2 with e2; rw [e2] at e; cases e
          · injection e2 with e2
            rw [e] at e2
            injection e2 with e2
            injection e2 with e2
            subst e2
            rw [hh] at ho
            injection ho with ho
            subst ho
            cases hc
    · intro r W hW hr
      exact ⟨none, 0, 0, [], (hW.block _ (by omega)).trans bO, ResB.nil _ _, D10.nil, rfl, rfl, hb0.trans (hW.mono (by omega)), fun g e => by cases e⟩
    · rintro l r pre x rest hx W K hK
      have hxlt := gL_lt hx
      have hpl : pre.length < 283 := by
        have := congrArg List.length hx
        simp at this
        omega
      dsimp only [encu]
      have HK := Lib.hid hK
      clear hK hx
      gi_wp2
      refine HK.out _ ?_
      rintro W2 ⟨A', n', c', ds, h1, h2, h3, h4, h5, h6, h7⟩ hz2 hr2
      gi_wp2
      have hn2 := Lib.hid h4.out
      gi_loopw [6, 18] (fun q i wr => ∃ (j qv n2 c2 : Nat) (A2 : Option Addr), j ≤ 9 ∧ i = .int .i64 (j : Int) ∧ q = .int .u32 (qv : Int) ∧ Hid (qv = x / 10 ^ j) ∧ qv < 1000000000 ∧ n2 ≤ 2547 + j ∧ Hid (n2 = n' + j) ∧ Boxed wr w.heap.size 54 (.slice A2 n2 c2) ∧
          ResB wr w.heap.size A2 n2 c2 (chars (ds ++ digs j x)) ∧ Below w.heap.size W2 wr ∧ KeepsOthers W2 wr ∧ (∀ k, r = some k → wr.heap[k]? = W2.heap[k]?) ∧ (∀ g, A2 = some ⟨g, 0, none⟩ → g ≠ w.heap.size ∧ ∀ k, r = some k → g ≠ k)) (fun _ i _ => 9 - (intOf i).toNat)
      case atStart =>
        refine ⟨0, x, n', c', A', by omega, rfl, rfl, by show _ = _; simp, hxlt, by have := hn2.out; omega, rfl, h1, ?_, Below.refl _ _, KeepsOthers.refl _, fun _ _ => rfl, h7⟩
        rw [digs_zero, List.append_nil]; exact h2
      case round =>
        obtain ⟨j, qv, n2, c2, A2, hj, rfl, rfl, hq, hql, hnb, hnn, k1, k2, k3, k4, k5, k6⟩ := hrel
        by_cases hj9 : j = 9
        · subst hj9
          gi_wp2
          refine ⟨k4, ⟨k4.size, fun k hk => hk.elim False.elim (k5 k)⟩, A2, n2, c2, ds ++ digs 9 x, k1, k2, D10.append.2 ⟨h3, digs_d10 9 x⟩, ?_, ?_, h6.trans k3, k6⟩
          · show _ = _
            rw [hnn.out, hn2.out, List.length_append]; simp; omega
          · refine group_step ?_ h5.out hxlt
            have := h2.len
            simp [chars] at this
            rw [this, hn2.out]
        · have hlt : j < 9 := by omega
          have hc1 := k1.cell
          have hf1 := k1.frozen
          obtain ⟨i0, hi, hz0, hz1, hz2⟩ := info_parts info8
          have hro : ∀ o, (wr.alloc o).ownsRow w.heap.size 5 1 (.slice A2 n2 c2) n2 (u8s (chars (ds ++ digs j x))) := fun o => k2.own.alloc o
          have hsz := k3.size
          have hs6 := h6.size
          have hne : ∀ g, (Value.slice A2 n2 c2).ownBlock = some g → A2 = some ⟨g, 0, none⟩ := fun g e => by
            rcases k2.form with ⟨h, _⟩ | ⟨g', h, _, hlt⟩
            · rw [h] at e; simp [Value.ownBlock] at e
            · rw [h] at e ⊢; simp [Value.ownBlock] at e; rw [e]
          have hbx : ∀ o X, (wr.alloc o).grownBy X (Value.slice A2 n2 c2).ownBlock → Boxed X w.heap.size 54 (.slice A2 n2 c2) := fun o X hg => (k1.alloc o).kept hg (fun e => (k6 _ (hne _ e.symm)).1 rfl)
          have HNE := Lib.hid hne
          clear hne
          gi_wp2_with (gi_at_builtin; refine wpListIn_append_own_at _ rfl (.tmp 20) (.tmp 25) _ rfl w.heap.size 5 i0 (.int .u8 0) 1 1 Try.underlying54 hi hz0 hz1 hz2 rfl (by decide) (.slice A2 n2 c2) n2 (u8s (chars (ds ++ digs j x))) rfl (hro _) ⟨wr.heap.size, 0, none⟩ 1 1 [.int .u8 (48 + (qv : Int) % 10)] rfl rfl (cell_new1 _ _ _ _ rfl) (by simp [Value.oneCell']) (by unfold maxLen; omega) (by omega) (by simp; omega) ?_; intro v' w1 hown1 hg1 _ hat1; have kb := hbx _ _ hg1; obtain ⟨g', cap', rfl⟩ := ownsRow_succ hown1; have hc5 := kb.cell; have hf5 := kb.frozen)
          have hd48 : (48 + (qv : Int) % 10) = ((qv % 10 + 48 : Nat) : Int) := by omega
          have hdig : chars (ds ++ digs (j + 1) x) = chars (ds ++ digs j x) ++ [qv % 10 + 48] := by
            rw [digs_succ, ← List.append_assoc, chars_snoc, hq.out]
          rw [hd48] at hown1
          have hrb : ResB w1 w.heap.size (some ⟨g', 0, none⟩) (n2 + 1) cap' (chars (ds ++ digs (j + 1) x)) := by
            rw [hdig]
            exact ⟨by rw [List.length_append, k2.len]; rfl, L8.append k2.l32 (L8.one (by omega)), by unfold u8s at hown1 ⊢; rw [List.map_append]; exact hown1⟩
          have hg' : g' ≠ w.heap.size ∧ ∀ k, r = some k → g' ≠ k := by
            rcases hat1 with h | h
            · exact k6 g' (HNE.out g' (by rw [← h]; rfl))
            · simp [Value.ownBlock] at h
              have hlt0 := k1.lt
              refine ⟨by omega, fun k hk => ?_⟩
              have := hr2 k hk
              have := k4.size
              omega
          refine ⟨⟨j + 1, qv / 10, n2 + 1, cap', some ⟨g', 0, none⟩, by omega, by go_num, by go_num, ?_, by omega, by omega, ?_, kb.set _, ?_, ?_, ?_, ?_, ?_⟩, by simp [intOf]; omega⟩
          · show _ = _
            rw [hq.out, Nat.div_div_eq_div_mul, Nat.pow_succ]
          · show _ = _
            rw [hnn.out]; rfl
          · refine hrb.grown (grownBy_setCell' _ _ _) (fun g e he => ?_)
            injection e with e
            injection e with e
            injection he with he
            exact hg'.1 (by omega)
          · refine ((k3.alloc (by omega) _).grown hg1 (by simp; omega) (fun k e => ?_)).setCell (p := ⟨w.heap.size, 0, none⟩) (Nat.le_refl _) _
            have e2 := HNE.out k e
            rcases k2.form with ⟨h, _⟩ | ⟨g2, h, hb, _⟩
            · rw [h] at e2; cases e2
            · rw [h] at e2; injection e2 with e2; injection e2 with e2; omega
          · refine ((k4.trans (KeepsOthers.alloc _ _)).trans (KeepsOthers.of_grownBy hg1 (fun k o e ho => ?_))).trans (KeepsOthers.setCell _ _ _)
            have e2 := HNE.out k e
            rcases (hro _).2 with ⟨e3, _⟩ | ⟨g2, cap, cur, e3, _, hh, _⟩
            · injection e3 with e3; rw [e3] at e2; cases e2
            · injection e3 with e3
              rw [e2] at e3
              injection e3 with e3
              injection e3 with e3
              subst e3
              rw [hh] at ho
              injection ho with ho
              subst ho; rfl
          · intro k hk
            have h8 := hr2 k hk
            have h9 := k4.size
            rw [Below.heap_setCell _ _ _ _ (show k ≠ w.heap.size by omega), hg1.block k (by simp; omega) (fun e => (k6 k (HNE.out k e.symm)).2 k hk rfl), Below.heap_alloc _ _ _ (by omega)]
            exact k5 k hk
          · intro g e
            injection e with e
            injection e with e
            subst e
            exact hg'
    · intro D r W ⟨A', n', c', ds, h1, h2, h3, h4, h5, h6, h7⟩ hD hK
      have hdv : dval ds = val xs := by rw [h5.out, gval_gL]
      have hdl : ds.length = n' := by have := h2.len; simpa [chars] using this
      have htp : 0 < tl ds n' := by rw [← hdl]; exact tl_pos_of (by omega)
      have hn'p : 0 < n' := by have := tl_le ds n'; omega
      obtain ⟨g, hA⟩ : ∃ g, A' = some ⟨g, 0, none⟩ := by
        rcases h2.form with ⟨_, h, _⟩ | ⟨g, h, _⟩
        · omega
        · exact ⟨g, h⟩
      subst hA
      have hgb := (h7 g rfl).1
      have hn'b : n' ≤ 2547 := by have := h4.out; omega
      have hc'n := h2.n_le
      have HDV := Lib.hid hdv
      have HDL := Lib.hid hdl
      clear hdv hdl h4 h5 h7
      gi_wp2
      gi_loopg [] n' (fun k wr => k ≤ n' ∧ Hid (tl ds k = tl ds n') ∧ Boxed wr w.heap.size 54 (.slice (some ⟨g, 0, none⟩) k c') ∧ W.grownBy wr (some w.heap.size))
      case atStart => exact ⟨Nat.le_refl _, rfl, h1, World.grownBy.refl W _⟩
      case round =>
        obtain ⟨hk, ht, hb, hg⟩ := hrel
        have hkp : 0 < gk := by have h := ht.out; have := tl_le ds gk; omega
        obtain ⟨j, rfl⟩ : ∃ j, gk = j + 1 := ⟨gk - 1, by omega⟩
        have hcell : wr.cell? ⟨g, j, none⟩ = some (.int .u8 ((nth ds j + 48 : Nat) : Int)) := by
          have := h2.cell (j := j) (by omega)
          rw [chars_get (by rw [HDL.out]; omega)] at this
          exact only_cell hg (fun e => hgb e) this
        have hc1 := hb.cell
        have hf1 := hb.frozen
        by_cases hz0 : nth ds j = 0
        · have hs := Lib.hid ((tl_step hz0).symm.trans ht.out)
          rw [hz0] at hcell
          clear hz0 ht
          gi_wp2
          gi_roundg j
          case measure => omega
          case rel => exact ⟨by omega, hs, hb.set _, only_set hg _ _⟩
        · have he := Lib.hid (ht.out.symm.trans (tl_stop hz0))
          have hbq : (((nth ds j + 48 : Nat) : Int) == 48) = false := by rw [beq_eq_false_iff_ne]; omega
          clear hz0 ht
          have hrow : ResB wr w.heap.size (some ⟨g, 0, none⟩) (j + 1) c' ((chars ds).take (j + 1)) := (h2.grown hg (fun g' e he => by injection e with e; injection e with e; injection he with he; omega)).take (by omega)
          have hsz := hg.size
          have hbx : ∀ X, wr.grownBy X (Value.slice (some ⟨g, 0, none⟩) (j + 1) c').ownBlock → Boxed X w.heap.size 54 (.slice (some ⟨g, 0, none⟩) (j + 1) c') := fun X h => hb.kept h (fun e => by simp [Value.ownBlock] at e; omega)
          gi_wp2_with (refine ⟨trivial, rfl, ?_⟩; gi_at_call 29; refine (callsIn_wide.2 (Reverse_c _ hrow (by omega))).mono ?_; rintro e w3 ⟨⟨v3, rfl⟩, hr3, hg3⟩; have kb := hbx _ hg3; have hc5 := kb.cell; have hcv := conv_txt hr3)
          obtain ⟨hgW, hgc⟩ : w.heap.size ≤ g ∧ ∃ cur, W.heap[g]? = some (.cells cur 5 (0, 0)) := by
            rcases h2.own.2 with ⟨e, _⟩ | ⟨g2, cap, cur, e, hb2, hh, _⟩
            · cases e
            · injection e with e; injection e with e; injection e with e; subst e; exact ⟨hb2, cur, hh⟩
          have hDl := (Array.getElem?_eq_some_iff.1 hK).1
          have hDg : D ≠ g := by
            rintro rfl
            obtain ⟨cur, hh⟩ := hgc
            rw [hh] at hK
            cases hK
          have hK1 : wr.heap[D]? = some (.deferred (some [])) := (hg.block D hDl (fun e => by injection e with e; omega)).trans hK
          have hK3 : w3.heap[D]? = some (.deferred (some [])) := (hg3.block D (by omega) (fun e => by simp [Value.ownBlock] at e; exact hDg e)).trans hK1
          have hb3 : Below w.heap.size w w3 := (h6.trans (below_of_only hg (Nat.le_refl _) h6.size)).grown hg3 (by have := h6.size; omega) (fun k e => by simp [Value.ownBlock] at e; omega)
          refine ⟨by simp, .inl ⟨_, _, rfl, run_takeDeferred hK3, ?_⟩⟩
          refine ⟨_, results_tmp2 rfl _ _ _, _, rfl, .inr ⟨hpos, trimmed ds, trimmed_dcan h3, (trimmed_dval ds).trans HDV.out, ?_⟩, hb3.trans (below_of_only (only_putObj _ _ _) (by omega) hb3.size)⟩
          unfold trimmed chars
          rw [HDL.out, he.out, List.map_take]
end Go.Proofs.Ytecpapkffinlbaa
