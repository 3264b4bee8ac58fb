/-
  There is an order of places; contract of order.UniqueBy.
  Contract of order.GroupBy.
-/
import Derived.Test.YtjjpagdnjafgaaaGreatDoorGOgi
import Derived.Test.YtjjpagdnjafgaaaGreatDoorGNparse
set_option linter.unusedVariables false
set_option linter.unusedSimpArgs false
namespace Go.Proofs.YtjjpagdnjafgaaaGreatDoor
open Go.RowKit Go.Sort
attribute [local go_sem] Oper.semAt_some

theorem placed_exists (l : List VT) : ∃ ps, Placed l ps := by
  obtain ⟨le, hle⟩ : ∃ le : Fin l.length → Fin l.length → Bool, le = fun i j => !(ltOf (plV l) j i) := ⟨_, rfl⟩
  have hS := plV_swo l
  have htr : ∀ a b c, le a b = true → le b c = true → le a c = true := by
    intro a b c h1 h2
    rw [hle] at h1 h2 ⊢
    simp only [Bool.not_eq_true'] at h1 h2 ⊢
    exact hS.ntrans c b a h2 h1
  have hto : ∀ a b, (le a b || le b a) = true := by
    intro a b
    rw [hle]
    simp only
    cases h1 : ltOf (plV l) b a
    · simp
    · cases h2 : ltOf (plV l) a b
      · simp
      · have := hS.trans _ _ _ h1 h2
        rw [hS.irrefl] at this
        cases this
  have hpw := List.pairwise_mergeSort (le := le) htr hto (List.finRange l.length)
  have hpm : ((List.finRange l.length).mergeSort le).Perm (List.finRange l.length) := List.mergeSort_perm _ _
  generalize (List.finRange l.length).mergeSort le = r at *
  have hmap : (List.finRange l.length).map Fin.val = List.range l.length := by
    apply List.ext_getElem
    · simp
    · intro i h1 h2
      simp
  refine ⟨r.map Fin.val, ?_, ?_⟩
  · rw [← hmap]
    exact hpm.map _
  · have hnd : r.Nodup := hpm.nodup_iff.2 (by
      have : ((List.finRange l.length).map Fin.val).Nodup := by rw [hmap]; exact List.nodup_range
      exact List.Pairwise.of_map Fin.val (fun a b h e => h (congrArg _ e)) this)
    rw [List.pairwise_map]
    refine (hpw.and hnd).imp ?_
    rintro a b ⟨h1, hne⟩ x y hx hy
    rw [hle] at h1
    simp only [Bool.not_eq_true'] at h1
    unfold ltOf at h1
    rw [decide_eq_false_iff_not, plV_lt] at h1
    have hne2 : a.val ≠ b.val := fun e => hne (Fin.ext e)
    rw [List.getElem?_eq_getElem a.isLt] at hx
    rw [List.getElem?_eq_getElem b.isLt] at hy
    injection hx with hx
    injection hy with hy
    have hx' : l[a] = x := hx
    have hy' : l[b] = y := hy
    rw [hx', hy'] at h1
    have := ordV_anti x y
    omega
theorem cells_of {w : World} {a : Addr} {v : Value} {o : Obj} (h : w.cell? a = some v) (ho : w.heap[a.block]? = some o) : o.isCells = true := by
  unfold World.cell? at h
  rw [ho] at h
  cases o <;> first | rfl | simp at h
theorem HPg.grown {ps : List Nat} {g : Nat} {A B : World} {row : Option Nat} (h : HPg ps g A) (hg : A.grownBy B row) (hr : some g ≠ row) (hs : g < A.heap.size) : HPg ps g B := fun k p hk => (World.cell?_of_block (hg.block g hs hr)).trans (h k p hk)
theorem HPg.below {ps : List Nat} {g b : Nat} {A B : World} (h : HPg ps g A) (hb : Below b A B) (hs : g < b) : HPg ps g B := fun k p hk => (hb.cell (p := ⟨g, k, none⟩) hs).trans (h k p hk)
/-- A row that is no range's record. -/
theorem HPg.row {ps : List Nat} {g b : Nat} {A : World} {row : Option Nat} (h : HPg ps g A) (hn : 0 < ps.length) (hr : ∀ k, row = some k → k = b ∧ ∃ o : Obj, A.heap[k]? = some o ∧ o.isCells = false) : some g ≠ row := by
  intro e
  obtain ⟨-, o, ho, hc⟩ := hr g e.symm
  have h0 : ps[0]? = some ps[0] := List.getElem?_eq_getElem hn
  have := cells_of (h 0 _ h0) ho
  rw [hc] at this
  cases this

theorem own_same {w w' : World} {base : Nat} {e : TypeId} {size : Nat} {v : Value} {n : Nat} {xs : List Value} (h : w.ownsRow base e size v n xs) (hb : ∀ g, v.ownBlock = some g → w'.heap[g]? = w.heap[g]?) : w'.ownsRow base e size v n xs := by
  refine ⟨h.1, ?_⟩
  rcases h.2 with hn | ⟨g, cap, cur, rfl, hb1, hh, rest⟩
  · exact .inl hn
  · exact .inr ⟨g, cap, cur, rfl, hb1, (hb g rfl).trans hh, rest⟩
theorem own_block {w : World} {base : Nat} {e : TypeId} {size : Nat} {v : Value} {n : Nat} {xs : List Value} (h : w.ownsRow base e size v n xs) {g : Nat} (hv : v.ownBlock = some g) : base ≤ g ∧ g < w.heap.size ∧ ∃ cur, w.heap[g]? = some (.cells cur e) := by
  rcases h.2 with ⟨rfl, _⟩ | ⟨g2, cap, cur, rfl, hb1, hh, rest⟩
  · simp [Value.ownBlock] at hv
  · simp only [Value.ownBlock, Option.some.injEq] at hv
    subst hv
    exact ⟨hb1, (Array.getElem?_eq_some_iff.1 hh).1, _, hh⟩
/-- A range's record is no row. -/
theorem own_not {w : World} {base b : Nat} {e : TypeId} {size : Nat} {v : Value} {n : Nat} {xs : List Value} {row : Option Nat} (h : w.ownsRow base e size v n xs) (hr : ∀ k, row = some k → k = b ∧ ∃ o : Obj, w.heap[k]? = some o ∧ o.isCells = false) {g : Nat} (hv : v.ownBlock = some g) : some g ≠ row := by
  intro e2
  obtain ⟨-, o, ho, hc⟩ := hr g e2.symm
  obtain ⟨-, -, cur, hh⟩ := own_block h hv
  rw [hh] at ho
  injection ho with ho
  subst ho
  cases hc
theorem own_othersd {w w1 : World} {base : Nat} {e : TypeId} {size : Nat} {v : Value} {n : Nat} {xs : List Value} {o : Obj} (h : w.ownsRow base e size v n xs) (hg : (w.alloc o).drew.grownBy w1 v.ownBlock) : KeepsOthers w w1 := by
  have h1 : KeepsOthers (w.alloc o).drew w1 := KeepsOthers.of_grownBy hg (fun k o2 e2 ho => by
    obtain ⟨-, -, cur, hh⟩ := own_block (h.alloc o).drew e2
    rw [hh] at ho
    injection ho with ho
    subst ho
    rfl)
  exact (KeepsOthers.alloc _ _).trans ⟨h1.size, h1.same⟩
theorem region_held_round {P : Program} {l id : Nat} {Q : Exit → Act → World → Prop} {a : Act} {w : World} {ops : List Oper} {S : World → Prop} (hm : P.follows .mixedOrders = true)
    (hnd : ops.all (fun o => match o.op with | .defer _ => false | _ => true) = true) (hq : ¬ LetsOut Q) (hS : S w.drew)
    (h : S w.drew → wpAnyH P .any ops.toArray Q S ops.toArray.size (Array.replicate ops.toArray.size false) a w.drew) : (Code.region id ops.toArray true).wpIn (Fence.wide.inRound l) 0 P Q a w := by
  refine wpIn_region_any hm (any_round (fun i o ho c e => ?_) hq _ _ _ _ (wpAny_of_held _ _ _ _ (h hS)))
  rw [List.all_eq_true] at hnd
  have hmem : o ∈ ops := by
    rw [List.getElem?_toArray] at ho
    exact List.mem_of_getElem? ho
  have := hnd o hmem
  rw [e] at this
  cases this
theorem step_append_ato {base : Nat} {e : TypeId} {i : TypeInfo} {z : Value} {size bytes n m c : Nat} {v : Value} {xs news : List Value} {ad : Addr} {w : World} {ops : Array Oper} {o : Oper} {a : Act} {K : Act → World → Prop} {Q : Exit → Act → World → Prop} {E : Prop} (hgd : o.guard = none) (s x : Operand) (t : TypeId)
    (ho : o.op = .call { callee := .builtin .append, args := #[s, x], argTypes := #[t, t] })
    (ht : Tryz.prog.underlying t = some (.slice e)) (hi : Tryz.prog.info? e = some i) (hz : i.zero = some z)
    (hsize : i.size = size) (hby : i.bytes = bytes) (hzs : z.cells.size = size) (hsz : 0 < size)
    (hs : a.eval s = v) (hown : w.ownsRow base e size v n xs)
    (hx : a.eval x = .slice (some ad) m c) (hl : news.length = m * size) (hnews : ∀ j u, news[j]? = some u → w.cell? (ad.add j) = some u) (h1 : ∀ u ∈ news, u.oneCell' = true)
    (h63 : n + m ≤ maxLen) (hbytes : (n + m) * bytes ≤ 140737488355328) (hbase : base ≤ w.heap.size)
    (h : ∀ v' w', w'.ownsRow base e size v' (n + m) (xs ++ news) → w.grownBy w' v.ownBlock → (v' = .slice none 0 0 ↔ v = .slice none 0 0 ∧ m = 0) → (v'.ownBlock = v.ownBlock ∨ v'.ownBlock = some w.heap.size) → K (a.put o.dst v') w') :
    if Region.wanted o (yielded ops a.tmps) = true then Oper.wp Tryz.prog o a w K Q else E := by
  have hw : Region.wanted o (yielded ops a.tmps) = true := by simp [Region.wanted, hgd]
  rw [if_pos hw]
  obtain ⟨v', w', hr, h2, h3, h4, h5⟩ := run_append_own_at (P := Tryz.prog) w base t o.type e i z size bytes ht hi hz hsize hby hzs hsz v n xs hown ad m c news hl hnews h1 h63 hbytes hbase
  unfold Oper.wp execOp
  simp only [ho, resolve, invoke, builtin, Sem.run_bind, Sem.run_pure, Result.andThen_ok, List.map_toArray, List.map_cons, List.map_nil, hs, hx, hr]
  exact h v' w' h2 h3 h4 h5
theorem heads_snoc (ps : List Nat) (L : List (Nat × Nat)) (p : Nat × Nat) : heads ps (L ++ [p]) = heads ps L ++ [ps[p.1]?.getD 0] := by simp [heads]

/-- What UniqueBy answers. -/
def UniqRes (B : Nat) (w' : World) (E : Nat) (l keys : List VT) (e : Ending) : Prop :=
  (E ≠ 0 ∧ e = .returned (.tuple #[.slice none 0 0, .int .i64 ((E : Nat) : Int)])) ∨
      (E = 0 ∧ ∃ LA n lc ps, e = .returned (.tuple #[.slice LA n lc, .int .i64 0]) ∧ Placed keys ps ∧ n ≤ lc ∧ RdL w' (Own' B w') LA n (pickV l (heads ps (runG (likeK keys ps) ps.length))))

set_option maxRecDepth 100000 in
set_option maxHeartbeats 2000000 in
theorem uniqueBy_c {S : Nat → Prop} {A B : Option Addr} {n c m d : Nat} {l keys : List VT} (w : World) (hT : Tabs w) (hl : RdL w S A n l) (hk : RdL w S B m keys) (hS : ∀ b, S b → b < w.heap.size) (hsz : underL l ≤ 21474836) :
    Calls Tryz.prog 49 #[.slice A n c, .slice B m d] w fun e w' => Below w.heap.size w w' ∧ UniqRes w.heap.size w' (itemsE l keys) l keys e := by
  have HC := checkItems_c (c := c) (d := d) w hT hl hk hS
  have hln := hl.1
  have hkn := hk.1
  have hlen := underL_len l
  have hz := @itemsE_zero l keys
  obtain ⟨E, hE⟩ : ∃ E, itemsE l keys = E := ⟨_, rfl⟩
  rw [hE] at HC hz
  rw [hE]
  have HL := Lib.hid hl
  have HK := Lib.hid hk
  have HS := Lib.hid hS
  have HZ := Lib.hid hz
  have HLN := Lib.hid hln
  have HKN := Lib.hid hkn
  have HSZ := Lib.hid hsz
  have hnb : n ≤ 21474836 := by omega
  clear hE hl hk hS hT hz hlen hln hkn hsz
  refine (callsIn_wide (n := 0)).1 ?_
  refine callsIn_of_wp_marks Tryz.func49 rfl trivial ?_ rfl
  simp only [Tryz.ntmps49, List.size_toArray, List.length_cons, List.length_nil, Nat.reduceAdd, Nat.reduceSub, Array.replicate_succ, Array.replicate_zero, List.push_toArray, List.append_toArray, List.nil_append, List.cons_append]
  by_cases hE0 : E = 0
  · subst hE0
    obtain ⟨ze1, ze2, ze3⟩ := HZ.out (by first | rfl | trivial)
    have hmn : m = n := by have h1 := HLN.out; have h2 := HKN.out; omega
    subst hmn
    obtain ⟨ps, hps⟩ := placed_exists keys
    have hfk : ∀ x ∈ keys, fine x := fun x hx => by
      obtain ⟨i, hi⟩ := List.getElem?_of_mem hx
      obtain ⟨-, -, cs, -, hall⟩ := HK.out
      exact fine_ok (hall i x hi) (ze2 x hx)
    have HPS := Lib.hid hps
    have HFK := Lib.hid hfk
    have HPN : Hid (ps.length = m) := by show _ = _; rw [hps.len]; exact HKN.out
    clear hps hfk ze1 ze2 ze3 HZ
    gi_upto_region 4 with (refine ⟨trivial, rfl, ?_⟩; refine (callsIn_wide.2 HC).mono ?_; rintro e w1 ⟨rfl, hb1⟩)
    clear HC
    have bx2 := Boxed.new w1 67 (.slice none 0 0)
    have hb2 : Below w1.heap.size w1 (w1.alloc (.cells #[.slice none 0 0] 67)) := (Below.refl _ w1).alloc (Nat.le_refl _) _
    have hz2 : (w1.alloc (.cells #[.slice none 0 0] 67)).heap.size = w1.heap.size + 1 := by simp
    gi_upto_region 5 with fail
    generalize (w1.alloc (.cells #[.slice none 0 0] 67)) = w2 at *
    gi_wp2_with (first | (refine ⟨trivial, rfl, ?_⟩; refine (callsIn_wide.2 (rank_c w2)).mono ?_; rintro e w3 ⟨rfl, hb3⟩) | (refine ⟨trivial, rfl, ?_⟩; refine (callsIn_wide.2 (ogroups_c w3)).mono ?_; rintro e w4 ⟨rfl, hw4⟩))
    have hz4 : w4.heap.size = w3.heap.size + 1 := by rw [hw4]; simp
    have hbox : w4.heap[w3.heap.size]? = some (.cells #[.slice B m d, .func (.func 90) #[] #[]] 121) := by rw [hw4]; exact World.alloc_heap_new _ _
    have hb4 : Below w3.heap.size w3 w4 := by rw [hw4]; exact (Below.refl _ _).alloc (Nat.le_refl _) _
    have hs3 := hb3.size
    have hs1 := hb1.size
    have hb24 : Below w2.heap.size w2 w4 := hb3.trans (hb4.mono hs3)
    have hb14 : Below w1.heap.size w1 w4 := hb2.trans (hb24.mono (by omega))
    have hb04 : Below w.heap.size w w4 := hb1.trans (hb14.mono hs1)
    have bx4 : Boxed w4 w1.heap.size 67 (.slice none 0 0) := (hb24.block _ (by omega)).trans bx2
    obtain ⟨b7, hb7⟩ : ∃ b7, w1.heap.size = b7 := ⟨_, rfl⟩
    rw [hb7] at bx4
    obtain ⟨bb, hbb⟩ : ∃ bb, w3.heap.size = bb := ⟨_, rfl⟩
    rw [hbb] at hbox
    have HB04 := Lib.hid hb04
    have HBOX := Lib.hid hbox
    have h7b : b7 < bb := by omega
    have hb4s : w4.heap.size = bb + 1 := by omega
    have hwb : w.heap.size ≤ b7 := by omega
    try rw [← hw4]
    try rw [hbb]
    try rw [hb7]
    clear hw4 hb1 hb2 hb3 hb4 hb24 hb14 hb04 bx2 hz2 hz4 hbox hs1 hs3 hb7 hbb w1 w2 w3
    refine range_law_g (gf := 134) (lb := #[.pointer (some ⟨bb, 0, none⟩)]) rfl (enters_of Tryz.func134 (by kernel_rfl) rfl) (encs := encG m) (keep := fun k => k = bb ∨ S k) (HP := HPg ps) (xs := runG (likeK keys ps) m)
      (fun W hz hW => ogroups1_iter W ((hW.block _ (by omega)).trans HBOX.out) (HK.out.keep fun p hp => (HB04.out.trans (hW.mono (by omega))).cell (HS.out _ hp)) (fun k hk => by have := HS.out _ hk; omega) hnb HFK.out HPS.out)
      (fun _ _ => rfl) (fun k hk => by
        rcases hk with h | h
        · omega
        · have := HS.out _ h; omega)
      (fun g pre W => ∃ v, Boxed W b7 67 v ∧ W.ownsRow (b7 + 1) 3 1 v pre.length (i64s (heads ps pre)) ∧ HPg ps g W ∧ W.heap[bb]? = some (.cells #[.slice B m d, .func (.func 90) #[] #[]] 121) ∧ Below w.heap.size w W ∧ v.ownBlock ≠ some g)
      (fun _ _ _ _ => False)
      ?_ ?_ ?_ ?_ ?_ ?_
    · rintro g pre X Y row ⟨v, h1, h2, h3, h4, h5, h6⟩ hg hr
      have hgs : ps ≠ [] → g < X.heap.size := fun hne => by
        obtain ⟨p, q, e⟩ := List.exists_cons_of_ne_nil hne
        exact block_lt_of_cell (h3 0 p (by rw [e]; rfl))
      refine ⟨v, h1.kept hg (fun e => by have := (hr _ e.symm).1; omega), own_same h2 (fun a ha => hg.block a (own_block h2 ha).2.1 (own_not h2 hr ha)), ?_, (hg.block bb (Array.getElem?_eq_some_iff.1 h4).1 (fun e => by have := (hr _ e.symm).1; omega)).trans h4, h5.grown hg (by have := h5.size; omega) (fun k e => by have := (hr k e).1; omega), h6⟩
      by_cases hne : ps = []
      · intro k p hk
        rw [hne] at hk
        simp at hk
      · exact h3.grown hg (h3.row (List.length_pos_iff.2 hne) hr) (hgs hne)
    · intro c g pre X Y row h
      exact h.elim
    · intro g W0 hhp hW hr
      exact ⟨.slice none 0 0, (hW.block _ (by omega)).trans bx4, World.ownsRow_nil _ _ _ _, hhp, (hW.block _ (by omega)).trans HBOX.out, HB04.out.trans (hW.mono (by omega)), by simp [Value.ownBlock]⟩
    · rintro l g pre ⟨a, b⟩ rest hx W K hK
      have hmem : (a, b) ∈ runG (likeK keys ps) m := by rw [hx]; simp
      obtain ⟨hab, hbm⟩ := runG_ok (likeK_self keys ps 0) hmem
      have hab : a < b := hab
      have hbm : b ≤ m := hbm
      have hpl : pre.length < m := by
        have h1 := heads_sub (ps := ps) (runG (likeK keys ps) m) (fun p hp => by have := runG_ok (likeK_self keys ps 0) hp; have := HPN.out; omega)
        have h2 := h1.length_le
        have h3 := segs_flat (likeK keys ps) ps
        rw [HPN.out] at h3
        rw [h3, HPN.out] at h2
        unfold heads at h2
        rw [List.length_map, hx, List.length_append, List.length_cons] at h2
        omega
      dsimp only [encG]
      have HX := Lib.hid hx
      have HKK := Lib.hid hK
      clear hK hx hmem
      gi_wp2
      refine HKK.out _ ?_
      rintro W4 ⟨v, h1, h2, h3, h4, h5, h6⟩ hz4 hr4
      obtain ⟨L, hL⟩ : ∃ L, b - a = L := ⟨_, rfl⟩
      rw [hL]
      have hL0 : (0 : Int) < (L : Int) := by omega
      have hL1 : 0 < L := by omega
      have hL2 : ¬ L = 0 := by omega
      have hL3 : ¬ (L : Int) ≤ 0 := by omega
      obtain ⟨p, hp⟩ : ∃ p, ps[a]? = some p := ⟨_, List.getElem?_eq_getElem (by have := HPN.out; omega)⟩
      have hcg := h3 a p hp
      have hcb := h1.cell
      obtain ⟨i0, hi, hq0, hq1, hq2⟩ := info_parts infoI
      have hro : ∀ o, (W4.alloc o).drew.ownsRow (b7 + 1) 3 1 v pre.length (i64s (heads ps pre)) := fun o => (h2.alloc o).drew
      have hbx : ∀ o X, (W4.alloc o).drew.grownBy X v.ownBlock → Boxed X b7 67 v := fun o X hg => (show Boxed (W4.alloc o).drew b7 67 v from h1.alloc o).kept hg (fun e => own_other h2 h1 (by decide) e.symm)
      have hmx : Tryz.prog.follows .mixedOrders = true := by kernel_rfl
      have H1 := Lib.hid h1
      have H2 := Lib.hid h2
      have H3 := Lib.hid h3
      have H4 := Lib.hid h4
      have H5 := Lib.hid h5
      have HP := Lib.hid hp
      clear h1 h2 h3 h4 h5 hL hp
      gi_wp2_with fail
      have hcgd : W4.drew.cell? ⟨g, a, none⟩ = some (.int .i64 (p : Int)) := hcg
      have hal : ∀ o, Below W4.heap.size W4.drew (W4.drew.alloc o) := fun o => (Below.refl W4.heap.size W4.drew).alloc (Nat.le_refl _) o
      have hSal : ∀ o, (W4.drew.alloc o).cell? ⟨g, a, none⟩ = some (.int .i64 (p : Int)) := fun o => ((hal o).cell (p := ⟨g, a, none⟩) hr4.2).trans hcg
      have y7a : ∀ o, (W4.drew.alloc o).cell? ⟨b7, 0, none⟩ = some v := fun o => ((hal o).cell (p := ⟨b7, 0, none⟩) (by show b7 < W4.heap.size; omega)).trans hcb
      refine region_held_round (S := fun w' => w'.cell? ⟨g, a, none⟩ = some (.int .i64 (p : Int))) hmx (by rfl) (fun h => ?_) hcgd (fun hHeld => ?_)
      · obtain ⟨_, _, h⟩ := h
        exact h
      (try simp only [List.size_toArray, List.length_cons, List.length_nil, Nat.reduceAdd, Array.replicate_succ, Array.replicate_zero, List.push_toArray, List.append_toArray, List.nil_append, List.cons_append])
      refine wpAnyH_take (i := 1) (oi := ⟨_, _, _, _, _, _⟩) (v := ?_) rfl (by kernel_rfl) (by kernel_rfl) (by kernel_rfl) (fun _ _ _ h => h) (Or.inl ⟨by rfl, ?_⟩) (by assumption) ?_
      rotate_left
      · intro w hSw
        (try dsimp only at hSw)
        go_split_ands
        go_simp
        try with_reducible rfl
      try simp only [Act.put, List.setIfInBounds_toArray, List.set_cons_zero, List.set_cons_succ]
      refine wpAnyH_take (i := 2) (oi := ⟨_, _, _, _, _, _⟩) (v := ?_) rfl (by kernel_rfl) (by kernel_rfl) (by kernel_rfl) (fun _ _ _ h => h) (Or.inl ⟨by rfl, ?_⟩) (by assumption) ?_
      rotate_left
      · intro w hSw
        (try dsimp only at hSw)
        go_split_ands
        go_simp
        try with_reducible rfl
      try simp only [Act.put, List.setIfInBounds_toArray, List.set_cons_zero, List.set_cons_succ]
      refine wpAnyH_take (i := 3) (oi := ⟨_, _, _, _, _, _⟩) (v := ?_) rfl (by kernel_rfl) (by kernel_rfl) (by kernel_rfl) (fun _ _ _ h => h) (Or.inl ⟨by rfl, ?_⟩) (by assumption) ?_
      rotate_left
      · intro w hSw
        (try dsimp only at hSw)
        go_split_ands
        go_simp
        try with_reducible rfl
      try simp only [Act.put, List.setIfInBounds_toArray, List.set_cons_zero, List.set_cons_succ]
      refine wpAnyH_ready (rs := [0, 4]) (by kernel_rfl) (by simp) (AllReadyH.cons (o := ⟨_, _, _, _, _, _⟩) rfl (fun K hK => ?ga) (AllReadyH.cons (o := ⟨_, _, _, _, _, _⟩) rfl (fun K hK => ?gb) AllReadyH.nil))
      case' ga =>
        go_simp
        refine hK.out _ _ hcgd (fun hHeld2 => ?_)
        clear hK K
        try simp only [Act.put, List.setIfInBounds_toArray, List.set_cons_zero, List.set_cons_succ]
        refine wpAnyH_ready (rs := [4]) (by kernel_rfl) (by simp) (AllReadyH.cons (o := ⟨_, _, _, _, _, _⟩) rfl (fun K hK => ?_) AllReadyH.nil)
        go_simp
        refine hK.out _ _ (hSal _) (fun hHeld3 => ?_)
        clear hK K hHeld2
      case' gb =>
        go_simp
        refine hK.out _ _ (hSal _) (fun hHeld2 => ?_)
        clear hK K
        try simp only [Act.put, List.setIfInBounds_toArray, List.set_cons_zero, List.set_cons_succ]
        refine wpAnyH_ready (rs := [0]) (by kernel_rfl) (by simp) (AllReadyH.cons (o := ⟨_, _, _, _, _, _⟩) rfl (fun K hK => ?_) AllReadyH.nil)
        have y7b : (W4.alloc (.cells #[.int .i64 (p : Int)] 3)).drew.cell? ⟨b7, 0, none⟩ = some v := y7a (.cells #[.int .i64 (p : Int)] 3)
        go_simp
        refine hK.out _ _ (hSal _) (fun hHeld3 => ?_)
        clear hK K hHeld2 y7b
      all_goals
        try simp only [Act.put, List.setIfInBounds_toArray, List.set_cons_zero, List.set_cons_succ]
        refine wpAnyH_ready (rs := [5]) (by kernel_rfl) (by simp) (AllReadyH.cons (o := ⟨_, _, _, _, _, _⟩) rfl (fun K hK => ?_) AllReadyH.nil)
        refine step_append_ato (base := b7 + 1) (e := 3) (v := v) (n := pre.length) (xs := i64s (heads ps pre)) (news := [.int .i64 (p : Int)]) (m := 1) (c := 1) (ad := ⟨W4.heap.size, 0, none⟩) rfl (.tmp 19) (.tmp 23) 67 rfl Tryz.underlying67 hi hq0 hq1 hq2 rfl (by decide) rfl (hro _) rfl rfl (cell_new1 W4 (.int .i64 (p : Int)) 3 _ rfl) (by simp [Value.oneCell']) (by unfold maxLen; omega) (by omega) (by simp; omega) ?_
        intro v' w5 hown5 hg5 _ hat5
        have kb := hbx _ _ hg5
        obtain ⟨g', cap', rfl⟩ := ownsRow_succ hown5
        have hc5 := kb.cell
        have hf5 := kb.frozen
        have hcg5 : w5.cell? ⟨g, a, none⟩ = some (.int .i64 (p : Int)) := (World.cell?_of_block (hg5.block g (by have := hr4.2; simp; omega) (fun e => h6 e.symm))).trans (hSal (.cells #[.int .i64 (p : Int)] 3))
        refine hK.out _ _ hcg5 (fun hHeld4 => ?_)
        clear hK K
        try simp only [Act.put, List.setIfInBounds_toArray, List.set_cons_zero, List.set_cons_succ]
        refine wpAnyH_ready (rs := [6]) (by kernel_rfl) (by simp) (AllReadyH.cons (o := ⟨_, _, _, _, _, _⟩) rfl (fun K hK => ?_) AllReadyH.nil)
        go_simp
        refine hK.out _ _ ((World.cell?_of_block (Below.heap_setCell _ _ _ _ (by show g ≠ b7; omega))).trans hcg5) (fun hHeld5 => ?_)
        clear hK K
        try simp only [Act.put, List.setIfInBounds_toArray, List.set_cons_zero, List.set_cons_succ]
        refine wpAnyH_done (by kernel_rfl) ?_ _
        clear hHeld hHeld3 hHeld4 hHeld5 hcg5 hc5 hf5
        have hoth : KeepsOthers W4 w5 := by
          have h := own_othersd H2.out hg5
          exact h
        have hv5 : (Value.slice (some ⟨g', 0, none⟩) (pre.length + 1) cap').ownBlock ≠ some g := by
          rcases hat5 with h | h
          · rw [h]; exact h6
          · rw [h]
            intro e
            injection e with e
            simp at e
            omega
        have hkk : ∀ k, ((k = bb ∨ S k) ∨ k = g) → (w5.setCell ⟨b7, 0, none⟩ (.slice (some ⟨g', 0, none⟩) (pre.length + 1) cap')).heap[k]? = W4.heap[k]? := by
          intro k hk
          have h7 : k < W4.heap.size ∧ k ≠ b7 ∧ v.ownBlock ≠ some k := by
            rcases hk with (h | h) | h
            · rw [h]
              exact ⟨by omega, by omega, own_other H2.out H4.out (by decide)⟩
            · have := HS.out _ h
              exact ⟨by omega, by omega, fun e => by have := (own_block H2.out e).1; omega⟩
            · rw [h]
              exact ⟨by omega, by omega, h6⟩
          rw [Below.heap_setCell _ _ _ _ h7.2.1, hg5.block k (by simp; omega) (fun e => h7.2.2 e.symm)]
          exact Below.heap_alloc W4 _ _ h7.1
        have hsz5 : W4.heap.size ≤ (w5.setCell ⟨b7, 0, none⟩ (.slice (some ⟨g', 0, none⟩) (pre.length + 1) cap')).heap.size := by
          have := hoth.size
          simp at this ⊢
          exact this
        have hown6 : (w5.setCell ⟨b7, 0, none⟩ (.slice (some ⟨g', 0, none⟩) (pre.length + 1) cap')).ownsRow (b7 + 1) 3 1 (.slice (some ⟨g', 0, none⟩) (pre.length + 1) cap') (pre ++ [(a, b)]).length (i64s (heads ps (pre ++ [(a, b)]))) := by
          have h8 : i64s (heads ps (pre ++ [(a, b)])) = i64s (heads ps pre) ++ [.int .i64 (p : Int)] := by
            rw [heads_snoc, HP.out]
            simp [i64s]
          rw [h8, List.length_append]
          exact own_same hown5 (fun q hq => Below.heap_setCell _ _ _ _ (by have := (own_block hown5 hq).1; show q ≠ b7; omega))
        have hbel6 : Below w.heap.size w (w5.setCell ⟨b7, 0, none⟩ (.slice (some ⟨g', 0, none⟩) (pre.length + 1) cap')) := by
          refine Below.setCell ?_ (by show w.heap.size ≤ b7; exact hwb) _
          exact (H5.out.alloc H5.out.size _).drew.grown hg5 (by have := H5.out.size; simp; omega) (fun q hq => by have := (own_block H2.out hq).1; omega)
        have HKKK := Lib.hid hkk
        have HS5 := Lib.hid hsz5
        have HO6 := Lib.hid hown6
        have HB6 := Lib.hid hbel6
        have HOTH := Lib.hid hoth
        have KB := Lib.hid kb
        clear hkk hsz5 hown6 hbel6 hoth kb hown5 hg5 hat5
        gi_wp2_with fail
        refine ⟨HOTH.out.trans (KeepsOthers.setCell _ _ _), ⟨HS5.out, fun k hk => HKKK.out k hk⟩, (.slice (some ⟨g', 0, none⟩) (pre.length + 1) cap'), KB.out.set (.slice (some ⟨g', 0, none⟩) (pre.length + 1) cap'), HO6.out, fun q u hq => ?_, (HKKK.out bb (.inl (.inl rfl))).trans H4.out, HB6.out, hv5⟩
        exact (World.cell?_of_block (HKKK.out g (.inr rfl))).trans (H3.out q u hq)
    · rintro D g W ⟨v, h1, h2, h3, h4, h5, h6⟩ hD hK
      rw [hb4s] at hD
      subst hD
      obtain ⟨cnt, hcnt⟩ : ∃ cnt, (runG (likeK keys ps) m).length = cnt := ⟨_, rfl⟩
      rw [hcnt] at h2
      have hcl : cnt ≤ m := by
        have h1 := heads_sub (ps := ps) (runG (likeK keys ps) m) (fun p hp => by have := runG_ok (likeK_self keys ps 0) hp; have := HPN.out; omega)
        have h2 := h1.length_le
        have h3 := segs_flat (likeK keys ps) ps
        rw [HPN.out] at h3
        rw [h3, HPN.out] at h2
        unfold heads at h2
        rw [List.length_map] at h2
        omega
      have hhd : (heads ps (runG (likeK keys ps) m)).Sublist ps := by
        have h1 := heads_sub (ps := ps) (runG (likeK keys ps) m) (fun p hp => by have := runG_ok (likeK_self keys ps 0) hp; have := HPN.out; omega)
        have h3 := segs_flat (likeK keys ps) ps
        rw [HPN.out] at h3
        rwa [h3] at h1
      obtain ⟨hs, hhs⟩ : ∃ hs, heads ps (runG (likeK keys ps) m) = hs := ⟨_, rfl⟩
      rw [hhs] at h2 hhd
      have hhl : hs.length = cnt := by rw [← hhs]; unfold heads; rw [List.length_map, hcnt]
      have hform : ∃ VA vc, v = .slice VA cnt vc ∧ RowQ W VA hs := by
        rcases h2.2 with ⟨rfl, h0⟩ | ⟨q, cap, cur, rfl, hb1, hh, hrest⟩
        · subst h0
          exact ⟨none, 0, rfl, fun h => absurd h (by omega)⟩
        · refine ⟨some ⟨q, 0, none⟩, cap, rfl, fun _ => ⟨q, 0, rfl, (Array.getElem?_eq_some_iff.1 hh).1, fun k p hk => ?_⟩⟩
          have := h2.cells (g := q) rfl k (.int .i64 (p : Int)) (by rw [i64s, List.getElem?_map, hk]; rfl)
          rwa [Addr.add_lit] at this
      obtain ⟨VA, vc, rfl, hrq⟩ := hform
      have hc1 := h1.cell
      have hpm := HPS.out.1
      have hun : underL (pickV l hs) ≤ 21474836 := by
        have e1 := underL_sub (pickV_sub (l := l) hhd)
        have e2 : HPS.out.1.length_eq = HPS.out.1.length_eq := rfl
        rw [show keys.length = l.length by have := HKN.out; have := HLN.out; omega] at hpm
        rw [underL_perm (pickV_perm hpm)] at e1
        have := HSZ.out
        omega
      have HPK := pick_c (c := c) (m := cnt) (d := vc) W (HL.out.stay h5 HS.out) (fun b hb => Nat.lt_of_lt_of_le (HS.out b hb) h5.size) hrq hhl (by omega) (fun p hp => by have := HPS.out.lt (hhd.mem hp); have := HKN.out; omega) hun
      have H5 := Lib.hid h5
      have HD := Lib.hid hK
      have HHS := Lib.hid hhs
      clear h1 h2 h3 h4 h5 h6 hrq hpm hun hhd hK hhs hcnt
      gi_wp2_with (refine ⟨trivial, rfl, ?_⟩; refine (callsIn_wide.2 HPK).mono ?_; rintro e w6 ⟨LA, lc, rfl, hlc, hr6, hb6⟩)
      have hD2 := (hb6.block _ (Array.getElem?_eq_some_iff.1 HD.out).1).trans HD.out
      refine ⟨by simp, .inl ⟨_, _, rfl, run_takeDeferred hD2, ?_⟩⟩
      refine ⟨.tuple #[.slice LA cnt lc, .int .i64 0], by simp [results, Tryz.results49, go_sem], (H5.out.trans (hb6.mono H5.out.size)).trans (below_putC w6 _ (by omega)), Or.inr ⟨rfl, LA, cnt, lc, ps, rfl, HPS.out, hlc, ?_⟩⟩
      rw [HPN.out, HHS.out]
      have hDs : bb + 1 < W.heap.size := (Array.getElem?_eq_some_iff.1 HD.out).1
      exact (hr6.keep fun p hp => World.cell?_of_block (World.putObj_heap_other (by have := hp.1; omega))).more fun b hb => ⟨by have := hb.1; have := H5.out.size; omega, by simpa using hb.2⟩
    · intro D c g pre W h
      exact h.elim
  · have hE1 : ((E : Int) == 0) = false := by rw [beq_eq_false_iff_ne]; omega
    gi_wp2_with (refine ⟨trivial, rfl, ?_⟩; refine (callsIn_wide.2 HC).mono ?_; rintro e w1 ⟨rfl, hb1⟩)
    clear HC
    exact ⟨.tuple #[.slice none 0 0, .int .i64 (E : Int)], by simp [results, Tryz.results49, go_sem], hb1, Or.inl ⟨hE0, rfl⟩⟩
end Go.Proofs.YtjjpagdnjafgaaaGreatDoor

namespace Go.Proofs.YtjjpagdnjafgaaaGreatDoor
open Go.RowKit Go.Sort
attribute [local go_sem] Oper.semAt_some

/-- A group that is told: its slice, and the blocks it lies in. -/
structure Gr where
  A : Option Addr
  n : Nat
  c : Nat
  lo : Nat
  hi : Nat
def Gr.val (r : Gr) : Value := .slice r.A r.n r.c
/-- Groups that are told lie each in blocks of its own, behind a place, and not in the row's. -/
def GrOk (W : World) (base : Nat) (v : Value) (r : Gr) (l : List VT) : Prop :=
  r.n ≤ r.c ∧ base ≤ r.lo ∧ r.hi ≤ W.heap.size ∧ RdL W (fun k => r.lo ≤ k ∧ k < r.hi) r.A r.n l ∧ ∀ q, v.ownBlock = some q → ¬ (r.lo ≤ q ∧ q < r.hi)
theorem GrOk.keep {W W' : World} {base : Nat} {v v' : Value} {r : Gr} {l : List VT} (h : GrOk W base v r l) (hs : W.heap.size ≤ W'.heap.size) (hk : ∀ k, r.lo ≤ k → k < r.hi → W'.heap[k]? = W.heap[k]?) (hv : ∀ q, v'.ownBlock = some q → ¬ (r.lo ≤ q ∧ q < r.hi)) : GrOk W' base v' r l :=
  ⟨h.1, h.2.1, Nat.le_trans h.2.2.1 hs, h.2.2.2.1.keep fun p hp => World.cell?_of_block (hk _ hp.1 hp.2), hv⟩
/-- Groups, told one behind the other. -/
def GrsOk (W : World) (base : Nat) (v : Value) (grs : List Gr) (ls : List (List VT)) : Prop := grs.length = ls.length ∧ ∀ (i : Nat) (r : Gr) (l : List VT), grs[i]? = some r → ls[i]? = some l → GrOk W base v r l
theorem GrsOk.keep {W W' : World} {base : Nat} {v v' : Value} {grs : List Gr} {ls : List (List VT)} (h : GrsOk W base v grs ls) (hs : W.heap.size ≤ W'.heap.size) (hk : ∀ r k, GrOk W base v r [] ∨ (∃ l, GrOk W base v r l) → r.lo ≤ k → k < r.hi → W'.heap[k]? = W.heap[k]?) (hv : ∀ r l, GrOk W base v r l → ∀ q, v'.ownBlock = some q → ¬ (r.lo ≤ q ∧ q < r.hi)) : GrsOk W' base v' grs ls :=
  ⟨h.1, fun i r l hr hl => (h.2 i r l hr hl).keep hs (fun k h1 h2 => hk r k (.inr ⟨l, h.2 i r l hr hl⟩) h1 h2) (hv r l (h.2 i r l hr hl))⟩
theorem GrsOk.snoc {W : World} {base : Nat} {v : Value} {grs : List Gr} {ls : List (List VT)} {r : Gr} {l : List VT} (h : GrsOk W base v grs ls) (hr : GrOk W base v r l) : GrsOk W base v (grs ++ [r]) (ls ++ [l]) := by
  refine ⟨by simp [h.1], fun i r2 l2 h1 h2 => ?_⟩
  rw [List.getElem?_append] at h1 h2
  have hl := h.1
  by_cases hi : i < grs.length
  · rw [if_pos hi] at h1
    rw [if_pos (by omega)] at h2
    exact h.2 i r2 l2 h1 h2
  · rw [if_neg hi] at h1
    rw [if_neg (by omega)] at h2
    have h0 : i - grs.length = 0 := by
      have := (List.getElem?_eq_some_iff.1 h1).1
      simp at this
      omega
    rw [← hl, h0] at h2
    rw [h0] at h1
    simp at h1 h2
    subst h1 h2
    exact hr

/-- A row of rows of values. -/
def RdG (w : World) (S : Nat → Prop) (A : Option Addr) (L : List (List VT)) : Prop := ∀ (i : Nat) (x : List VT), L[i]? = some x → ∃ (q o : Nat) (GA : Option Addr) (gn gc : Nat), A = some ⟨q, o, none⟩ ∧ S q ∧ w.cell? ⟨q, o + i, none⟩ = some (.slice GA gn gc) ∧ gn ≤ gc ∧ RdL w S GA gn x
/-- The groups of keys' places. -/
def grpV (l keys : List VT) (ps : List Nat) : List (List VT) := (runG (likeK keys ps) ps.length).map fun p => pickV l (seg ps p)
/-- What GroupBy answers. -/
def GroupRes (B : Nat) (w' : World) (E : Nat) (l keys : List VT) (e : Ending) : Prop :=
  (E ≠ 0 ∧ e = .returned (.tuple #[.slice none 0 0, .int .i64 ((E : Nat) : Int)])) ∨
      (E = 0 ∧ ∃ GA n gc ps, e = .returned (.tuple #[.slice GA n gc, .int .i64 0]) ∧ Placed keys ps ∧ n = (grpV l keys ps).length ∧ RdG w' (Own' B w') GA (grpV l keys ps))

set_option maxRecDepth 100000 in
set_option maxHeartbeats 4000000 in
theorem groupBy_c {S : Nat → Prop} {A B : Option Addr} {n c m d : Nat} {l keys : List VT} (w : World) (hT : Tabs w) (hl : RdL w S A n l) (hk : RdL w S B m keys) (hS : ∀ b, S b → b < w.heap.size) (hsz : underL l ≤ 21474836) :
    Calls Tryz.prog 47 #[.slice A n c, .slice B m d] w fun e w' => Below w.heap.size w w' ∧ GroupRes w.heap.size w' (itemsE l keys) l keys e := by
  have hlen := underL_len l
  have hz := @itemsE_zero l keys
  have hln := hl.1
  have hkn := hk.1
  have bx0 := Boxed.new w 50 (.slice A n c)
  have hb0 : Below w.heap.size w (w.alloc (.cells #[.slice A n c] 50)) := (Below.refl _ w).alloc (Nat.le_refl _) _
  have hz0 : (w.alloc (.cells #[.slice A n c] 50)).heap.size = w.heap.size + 1 := by simp
  have HC := checkItems_c (c := c) (d := d) (w.alloc (.cells #[.slice A n c] 50)) (hT.below hb0) (hl.stay hb0 hS) (hk.stay hb0 hS) (fun b hb => Nat.lt_of_lt_of_le (hS b hb) hb0.size)
  obtain ⟨E, hE⟩ : ∃ E, itemsE l keys = E := ⟨_, rfl⟩
  rw [hE] at HC hz
  rw [hE]
  have HL := Lib.hid hl
  have HK := Lib.hid hk
  have HS := Lib.hid hS
  have HZ := Lib.hid hz
  have HLN := Lib.hid hln
  have HKN := Lib.hid hkn
  have HSZ := Lib.hid hsz
  have hnb : n ≤ 21474836 := by omega
  clear hE hl hk hS hT hz hlen hln hkn hsz
  refine (callsIn_wide (n := 0)).1 ?_
  refine callsIn_of_wp_marks Tryz.func47 rfl trivial ?_ rfl
  simp only [Tryz.ntmps47, List.size_toArray, List.length_cons, List.length_nil, Nat.reduceAdd, Nat.reduceSub, Array.replicate_succ, Array.replicate_zero, List.push_toArray, List.append_toArray, List.nil_append, List.cons_append]
  gi_upto_region 1 with fail
  generalize (w.alloc (.cells #[.slice A n c] 50)) = w0 at *
  have hc0 := bx0.cell
  by_cases hE0 : E = 0
  · subst hE0
    obtain ⟨ze1, ze2, ze3⟩ := HZ.out (by first | rfl | trivial)
    have hmn : m = n := by have h1 := HLN.out; have h2 := HKN.out; omega
    subst hmn
    obtain ⟨ps, hps⟩ := placed_exists keys
    have hfk : ∀ x ∈ keys, fine x := fun x hx => by
      obtain ⟨i, hi⟩ := List.getElem?_of_mem hx
      obtain ⟨-, -, cs, -, hall⟩ := HK.out
      exact fine_ok (hall i x hi) (ze2 x hx)
    have HPS := Lib.hid hps
    have HFK := Lib.hid hfk
    have HPN : Hid (ps.length = m) := by show _ = _; rw [hps.len]; exact HKN.out
    clear hps hfk ze1 ze2 ze3 HZ
    gi_upto_region 4 with (refine ⟨trivial, rfl, ?_⟩; refine (callsIn_wide.2 HC).mono ?_; rintro e w1 ⟨rfl, hb1⟩)
    clear HC
    have bx2 := Boxed.new w1 73 (.slice none 0 0)
    have hb2 : Below w1.heap.size w1 (w1.alloc (.cells #[.slice none 0 0] 73)) := (Below.refl _ w1).alloc (Nat.le_refl _) _
    have hz2 : (w1.alloc (.cells #[.slice none 0 0] 73)).heap.size = w1.heap.size + 1 := by simp
    gi_upto_region 5 with fail
    generalize (w1.alloc (.cells #[.slice none 0 0] 73)) = w2 at *
    gi_wp2_with (first | (refine ⟨trivial, rfl, ?_⟩; refine (callsIn_wide.2 (rank_c w2)).mono ?_; rintro e w3 ⟨rfl, hb3⟩) | (refine ⟨trivial, rfl, ?_⟩; refine (callsIn_wide.2 (ogroups_c w3)).mono ?_; rintro e w4 ⟨rfl, hw4⟩))
    have hz4 : w4.heap.size = w3.heap.size + 1 := by rw [hw4]; simp
    have hbox : w4.heap[w3.heap.size]? = some (.cells #[.slice B m d, .func (.func 90) #[] #[]] 121) := by rw [hw4]; exact World.alloc_heap_new _ _
    have hb4 : Below w3.heap.size w3 w4 := by rw [hw4]; exact (Below.refl _ _).alloc (Nat.le_refl _) _
    have hs3 := hb3.size
    have hs1 := hb1.size
    have hb24 : Below w2.heap.size w2 w4 := hb3.trans (hb4.mono hs3)
    have hb14 : Below w1.heap.size w1 w4 := hb2.trans (hb24.mono (by omega))
    have hb04 : Below w0.heap.size w0 w4 := hb1.trans (hb14.mono hs1)
    have bx4 : Boxed w4 w1.heap.size 73 (.slice none 0 0) := (hb24.block _ (by omega)).trans bx2
    have bx5 : Boxed w4 w.heap.size 50 (.slice A m c) := (hb04.block _ (by omega)).trans bx0
    have hbw4 : Below w.heap.size w w4 := hb0.trans (hb04.mono (by omega))
    obtain ⟨b7, hb7⟩ : ∃ b7, w1.heap.size = b7 := ⟨_, rfl⟩
    rw [hb7] at bx4
    obtain ⟨bb, hbb⟩ : ∃ bb, w3.heap.size = bb := ⟨_, rfl⟩
    rw [hbb] at hbox
    obtain ⟨b2, hb2e⟩ : ∃ b2, w.heap.size = b2 := ⟨_, rfl⟩
    have HB04 := Lib.hid hbw4
    have HBOX := Lib.hid hbox
    have h7b : b7 < bb := by omega
    have hb4s : w4.heap.size = bb + 1 := by omega
    have hwb : w.heap.size ≤ b7 := by omega
    have h27 : b2 < b7 := by omega
    have hb2w : b2 = w.heap.size := by omega
    have HB2W := Lib.hid hb2w
    try rw [← hw4]
    try rw [hbb]
    try rw [hb7]
    try rw [hb2e]
    rw [hb2e] at bx5
    clear hw4 hb0 hb1 hb2 hb3 hb4 hb24 hb14 hb04 bx2 hz2 hz4 hbox hs1 hs3 hb7 hbb bx0 hc0 hz0 hbw4 hb2w hb2e w0 w1 w2 w3
    refine range_law_g (gf := 134) (lb := #[.pointer (some ⟨bb, 0, none⟩)]) rfl (enters_of Tryz.func134 (by kernel_rfl) rfl) (encs := encG m) (keep := fun k => k = bb ∨ S k) (HP := HPg ps) (xs := runG (likeK keys ps) m)
      (fun W hz hW => ogroups1_iter W ((hW.block _ (by omega)).trans HBOX.out) (HK.out.keep fun p hp => (HB04.out.trans (hW.mono (by omega))).cell (HS.out _ hp)) (fun k hk => by have := HS.out _ hk; omega) hnb HFK.out HPS.out)
      (fun _ _ => rfl) (fun k hk => by
        rcases hk with h | h
        · omega
        · have := HS.out _ h; omega)
      (fun g pre W => ∃ v grs, Boxed W b7 73 v ∧ W.ownsRow (b7 + 1) 50 1 v pre.length (grs.map Gr.val) ∧ HPg ps g W ∧ W.heap[bb]? = some (.cells #[.slice B m d, .func (.func 90) #[] #[]] 121) ∧ Below w.heap.size w W ∧ v.ownBlock ≠ some g ∧ Boxed W b2 50 (.slice A m c) ∧ GrsOk W (bb + 3) v grs (pre.map fun p => pickV l (seg ps p)))
      (fun _ _ _ _ => False)
      ?_ ?_ ?_ ?_ ?_ ?_
    · rintro g pre X Y row ⟨v, grs, h1, h2, h3, h4, h5, h6, h8, h9⟩ hg hr
      have hgs : ps ≠ [] → g < X.heap.size := fun hne => by
        obtain ⟨p, q, e⟩ := List.exists_cons_of_ne_nil hne
        exact block_lt_of_cell (h3 0 p (by rw [e]; rfl))
      refine ⟨v, grs, h1.kept hg (fun e => by have := (hr _ e.symm).1; omega), own_same h2 (fun a ha => hg.block a (own_block h2 ha).2.1 (own_not h2 hr ha)), ?_, (hg.block bb (Array.getElem?_eq_some_iff.1 h4).1 (fun e => by have := (hr _ e.symm).1; omega)).trans h4, h5.grown hg (by have := h5.size; omega) (fun k e => by have := (hr k e).1; omega), h6, h8.kept hg (fun e => by have := (hr _ e.symm).1; omega), ?_⟩
      · by_cases hne : ps = []
        · intro k p hk
          rw [hne] at hk
          simp at hk
        · exact h3.grown hg (h3.row (List.length_pos_iff.2 hne) hr) (hgs hne)
      · refine h9.keep hg.size (fun r k hrr hk1 hk2 => hg.block k ?_ ?_) (fun r lx hrr => hrr.2.2.2.2)
        · rcases hrr with h | ⟨lx, h⟩ <;> (have := h.2.2.1; omega)
        · intro e
          have h10 := (hr _ e.symm).1
          rcases hrr with h | ⟨lx, h⟩ <;> (have := h.2.1; omega)
    · intro c g pre X Y row h
      exact h.elim
    · intro g W0 hhp hW hr
      exact ⟨.slice none 0 0, [], (hW.block _ (by omega)).trans bx4, World.ownsRow_nil _ _ _ _, hhp, (hW.block _ (by omega)).trans HBOX.out, HB04.out.trans (hW.mono (by omega)), by simp [Value.ownBlock], (hW.block _ (by omega)).trans bx5, rfl, fun i r lx h => by simp at h⟩
    · rintro lo g pre ⟨a, b⟩ rest hx W K hK
      have hmem : (a, b) ∈ runG (likeK keys ps) m := by rw [hx]; simp
      obtain ⟨hab, hbm⟩ := runG_ok (likeK_self keys ps 0) hmem
      have hab : a < b := hab
      have hbm : b ≤ m := hbm
      have hpl : pre.length < m := by
        have h1 := heads_sub (ps := ps) (runG (likeK keys ps) m) (fun p hp => by have := runG_ok (likeK_self keys ps 0) hp; have := HPN.out; omega)
        have h2 := h1.length_le
        have h3 := segs_flat (likeK keys ps) ps
        rw [HPN.out] at h3
        rw [h3, HPN.out] at h2
        unfold heads at h2
        rw [List.length_map, hx, List.length_append, List.length_cons] at h2
        omega
      dsimp only [encG]
      have HX := Lib.hid hx
      have HKK := Lib.hid hK
      clear hK hx hmem
      gi_wp2
      refine HKK.out _ ?_
      rintro W4 ⟨v, grs, h1, h2, h3, h4, h5, h6, h8, h9⟩ hz4 hr4
      obtain ⟨L, hL⟩ : ∃ L, b - a = L := ⟨_, rfl⟩
      rw [hL]
      have hsl : (seg ps (a, b)).length = L := by rw [seg_len (by have := HPN.out; show b ≤ _; omega)]; exact hL
      have hrq : RowQ W4.drew (some ⟨g, a, none⟩) (seg ps (a, b)) := fun _ => ⟨g, a, rfl, hr4.2, fun k p hk => by
        have hk2 : k < b - a := by
          have := (List.getElem?_eq_some_iff.1 hk).1
          omega
        exact h3 (a + k) p (by rw [← seg_get (p := (a, b)) hk2]; exact hk)⟩
      have hun : underL (pickV l (seg ps (a, b))) ≤ 21474836 := by
        have e1 := underL_sub (pickV_sub (l := l) (seg_sub ps (a, b)))
        have hpm := HPS.out.1
        rw [show keys.length = l.length by have := HKN.out; have := HLN.out; omega] at hpm
        rw [underL_perm (pickV_perm hpm)] at e1
        have := HSZ.out
        omega
      have HPK := pick_c (c := c) (m := L) (d := m - a) W4.drew (HL.out.keep fun p hp => h5.drew.cell (HS.out _ hp)) (fun b hb => Nat.lt_of_lt_of_le (HS.out b hb) h5.drew.size) hrq hsl (by omega) (fun p hp => by have := HPS.out.lt ((seg_sub ps (a, b)).mem hp); have := HKN.out; omega) hun
      have hcb := h1.cell
      have hc2 := h8.cell
      obtain ⟨i0, hi, hq0, hq1, hq2⟩ := info_parts infoSV
      have hmx : Tryz.prog.follows .mixedOrders = true := by kernel_rfl
      have H1 := Lib.hid h1
      have H2 := Lib.hid h2
      have H3 := Lib.hid h3
      have H4 := Lib.hid h4
      have H5 := Lib.hid h5
      have H8 := Lib.hid h8
      have H9 := Lib.hid h9
      clear h1 h2 h3 h4 h5 h8 h9 hL hrq hun hsl
      gi_wp2_with fail
      refine region_held_round (S := fun w' => w'.cell? ⟨b2, 0, none⟩ = some (.slice A m c)) hmx (by rfl) (fun h => ?_) hc2 (fun hHeld => ?_)
      · obtain ⟨_, _, h⟩ := h
        exact h
      (try simp only [List.size_toArray, List.length_cons, List.length_nil, Nat.reduceAdd, Array.replicate_succ, Array.replicate_zero, List.push_toArray, List.append_toArray, List.nil_append, List.cons_append])
      refine wpAnyH_take (i := 1) (oi := ⟨_, _, _, _, _, _⟩) (v := ?_) rfl (by kernel_rfl) (by kernel_rfl) (by kernel_rfl) (fun _ _ _ h => h) (Or.inl ⟨by rfl, ?_⟩) (by assumption) ?_
      rotate_left
      · intro w hSw
        (try dsimp only at hSw)
        go_split_ands
        go_simp
        try with_reducible rfl
      try simp only [Act.put, List.setIfInBounds_toArray, List.set_cons_zero, List.set_cons_succ]
      refine wpAnyH_take (i := 2) (oi := ⟨_, _, _, _, _, _⟩) (v := ?_) rfl (by kernel_rfl) (by kernel_rfl) (by kernel_rfl) (fun _ _ _ h => h) (Or.inl ⟨by rfl, ?_⟩) (by assumption) ?_
      rotate_left
      · intro w hSw
        (try dsimp only at hSw)
        go_split_ands
        go_simp
        try with_reducible rfl
      try simp only [Act.put, List.setIfInBounds_toArray, List.set_cons_zero, List.set_cons_succ]
      refine wpAnyH_ready (rs := [0, 3]) (by kernel_rfl) (by simp) (AllReadyH.cons (o := ⟨_, _, _, _, _, _⟩) rfl (fun K hK => ?ga) (AllReadyH.cons (o := ⟨_, _, _, _, _, _⟩) rfl (fun K hK => ?gb) AllReadyH.nil))
      case' ga =>
        go_simp
        refine hK.out _ _ hc2 (fun hHeld2 => ?_)
        clear hK K
        try simp only [Act.put, List.setIfInBounds_toArray, List.set_cons_zero, List.set_cons_succ]
        refine wpAnyH_ready (rs := [3]) (by kernel_rfl) (by simp) (AllReadyH.cons (o := ⟨_, _, _, _, _, _⟩) rfl (fun K hK => ?_) AllReadyH.nil)
        go_simp
        refine HPK.mono ?_
        rintro e' w5 ⟨LA, lc, rfl, hlc, hr5, hb5⟩
        (try dsimp only)
        have hc25 : w5.cell? ⟨b2, 0, none⟩ = some (.slice A m c) := (hb5.cell (p := ⟨b2, 0, none⟩) (by show b2 < W4.heap.size; omega)).trans hc2
        have hcb5 : w5.cell? ⟨b7, 0, none⟩ = some v := (hb5.cell (p := ⟨b7, 0, none⟩) (by show b7 < W4.heap.size; omega)).trans hcb
        refine hK.out _ _ hc25 (fun hHeld3 => ?_)
        clear hK K hHeld2
        try simp only [Act.put, List.setIfInBounds_toArray, List.set_cons_zero, List.set_cons_succ]
        refine wpAnyH_ready (rs := [4]) (by kernel_rfl) (by simp) (AllReadyH.cons (o := ⟨_, _, _, _, _, _⟩) rfl (fun K hK => ?_) AllReadyH.nil)
        go_simp
        refine hK.out _ _ (show (w5.alloc (.cells #[.slice LA L lc] 50)).cell? ⟨b2, 0, none⟩ = some (.slice A m c) from (((Below.refl w5.heap.size w5).alloc (Nat.le_refl _) _).cell (block_lt_of_cell hc25)).trans hc25) (fun hHeld4 => ?_)
        clear hK K hHeld3
      case' gb =>
        go_simp
        refine HPK.mono ?_
        rintro e' w5 ⟨LA, lc, rfl, hlc, hr5, hb5⟩
        (try dsimp only)
        have hc25 : w5.cell? ⟨b2, 0, none⟩ = some (.slice A m c) := (hb5.cell (p := ⟨b2, 0, none⟩) (by show b2 < W4.heap.size; omega)).trans hc2
        have hcb5 : w5.cell? ⟨b7, 0, none⟩ = some v := (hb5.cell (p := ⟨b7, 0, none⟩) (by show b7 < W4.heap.size; omega)).trans hcb
        refine hK.out _ _ hc25 (fun hHeld2 => ?_)
        clear hK K
        try simp only [Act.put, List.setIfInBounds_toArray, List.set_cons_zero, List.set_cons_succ]
        refine wpAnyH_ready (rs := [0, 4]) (by kernel_rfl) (by simp) (AllReadyH.cons (o := ⟨_, _, _, _, _, _⟩) rfl (fun K hK => ?gc) (AllReadyH.cons (o := ⟨_, _, _, _, _, _⟩) rfl (fun K hK => ?gd) AllReadyH.nil))
        case' gc =>
          go_simp
          refine hK.out _ _ hc25 (fun hHeld3 => ?_)
          clear hK K hHeld2
          try simp only [Act.put, List.setIfInBounds_toArray, List.set_cons_zero, List.set_cons_succ]
          refine wpAnyH_ready (rs := [4]) (by kernel_rfl) (by simp) (AllReadyH.cons (o := ⟨_, _, _, _, _, _⟩) rfl (fun K hK => ?_) AllReadyH.nil)
          go_simp
          refine hK.out _ _ (show (w5.alloc (.cells #[.slice LA L lc] 50)).cell? ⟨b2, 0, none⟩ = some (.slice A m c) from (((Below.refl w5.heap.size w5).alloc (Nat.le_refl _) _).cell (block_lt_of_cell hc25)).trans hc25) (fun hHeld4 => ?_)
          clear hK K hHeld3
        case' gd =>
          go_simp
          refine hK.out _ _ (show (w5.alloc (.cells #[.slice LA L lc] 50)).cell? ⟨b2, 0, none⟩ = some (.slice A m c) from (((Below.refl w5.heap.size w5).alloc (Nat.le_refl _) _).cell (block_lt_of_cell hc25)).trans hc25) (fun hHeld3 => ?_)
          clear hK K hHeld2
          try simp only [Act.put, List.setIfInBounds_toArray, List.set_cons_zero, List.set_cons_succ]
          refine wpAnyH_ready (rs := [0]) (by kernel_rfl) (by simp) (AllReadyH.cons (o := ⟨_, _, _, _, _, _⟩) rfl (fun K hK => ?_) AllReadyH.nil)
          have hcb6 : (w5.alloc (.cells #[.slice LA L lc] 50)).cell? ⟨b7, 0, none⟩ = some v := (((Below.refl w5.heap.size w5).alloc (Nat.le_refl _) _).cell (block_lt_of_cell hcb5)).trans hcb5
          go_simp
          refine hK.out _ _ hHeld3 (fun hHeld4 => ?_)
          clear hK K hHeld3 hcb6
      all_goals
        try simp only [Act.put, List.setIfInBounds_toArray, List.set_cons_zero, List.set_cons_succ]
        have hs45 : W4.heap.size ≤ w5.heap.size := hb5.size
        have hro5 : w5.ownsRow (b7 + 1) 50 1 v pre.length (grs.map Gr.val) := own_same H2.out fun q hq => hb5.block q (own_block H2.out hq).2.1
        have hro : ∀ o, (w5.alloc o).ownsRow (b7 + 1) 50 1 v pre.length (grs.map Gr.val) := fun o => hro5.alloc o
        have hbx : ∀ o X, (w5.alloc o).grownBy X v.ownBlock → Boxed X b7 73 v := fun o X hg => (Boxed.alloc (show Boxed w5 b7 73 v from (hb5.block b7 (by show b7 < W4.heap.size; omega)).trans H1.out) o).kept hg (fun e => own_other H2.out H1.out (by decide) e.symm)
        refine wpAnyH_ready (rs := [5]) (by kernel_rfl) (by simp) (AllReadyH.cons (o := ⟨_, _, _, _, _, _⟩) rfl (fun K hK => ?_) AllReadyH.nil)
        refine step_append_ato (base := b7 + 1) (e := 50) (v := v) (n := pre.length) (xs := grs.map Gr.val) (news := [.slice LA L lc]) (m := 1) (c := 1) (ad := ⟨w5.heap.size, 0, none⟩) rfl (.tmp 19) (.tmp 23) 73 rfl Tryz.underlying73 hi hq0 hq1 hq2 rfl (by decide) rfl (hro _) rfl rfl (cell_new1 w5 (.slice LA L lc) 50 _ rfl) (by simp [Value.oneCell']) (by unfold maxLen; omega) (by omega) (by simp; omega) ?_
        intro v' w6 hown6 hg6 _ hat6
        have kb := hbx _ _ hg6
        obtain ⟨g', cap', rfl⟩ := ownsRow_succ hown6
        have hc6 := kb.cell
        have hf6 := kb.frozen
        have hc26 : w6.cell? ⟨b2, 0, none⟩ = some (.slice A m c) := (World.cell?_of_block (hg6.block b2 (by simp; omega) (fun e => by have := (own_block H2.out e.symm).1; omega))).trans hHeld4
        refine hK.out _ _ hc26 (fun hHeld5 => ?_)
        clear hK K
        try simp only [Act.put, List.setIfInBounds_toArray, List.set_cons_zero, List.set_cons_succ]
        refine wpAnyH_ready (rs := [6]) (by kernel_rfl) (by simp) (AllReadyH.cons (o := ⟨_, _, _, _, _, _⟩) rfl (fun K hK => ?_) AllReadyH.nil)
        go_simp
        refine hK.out _ _ ((World.cell?_of_block (Below.heap_setCell _ _ _ _ (by show b2 ≠ b7; omega))).trans hc26) (fun hHeld6 => ?_)
        clear hK K
        try simp only [Act.put, List.setIfInBounds_toArray, List.set_cons_zero, List.set_cons_succ]
        refine wpAnyH_done (by kernel_rfl) ?_ _
        clear hHeld hHeld4 hHeld5 hHeld6 hc26 hc6 hf6
        have hk5 : ∀ k, k < w5.heap.size → k ≠ b7 → v.ownBlock ≠ some k → (w6.setCell ⟨b7, 0, none⟩ (.slice (some ⟨g', 0, none⟩) (pre.length + 1) cap')).heap[k]? = w5.heap[k]? := by
          intro k h1 h2 h3
          rw [Below.heap_setCell _ _ _ _ h2, hg6.block k (by simp; omega) (fun e => h3 e.symm)]
          exact Below.heap_alloc w5 _ _ h1
        have hk4 : ∀ k, k < W4.heap.size → k ≠ b7 → v.ownBlock ≠ some k → (w6.setCell ⟨b7, 0, none⟩ (.slice (some ⟨g', 0, none⟩) (pre.length + 1) cap')).heap[k]? = W4.heap[k]? := fun k h1 h2 h3 => (hk5 k (by omega) h2 h3).trans (hb5.block k h1)
        have hat7 : ∀ q, ((.slice (some ⟨g', 0, none⟩) (pre.length + 1) cap') : Value).ownBlock = some q → v.ownBlock = some q ∨ q = w5.heap.size + 1 := by
          intro q hq
          rcases hat6 with h | h
          · left; rw [← h]; exact hq
          · right
            rw [hq] at h
            injection h with h
            simpa using h
        have hsz6 : w5.heap.size + 1 ≤ (w6.setCell ⟨b7, 0, none⟩ (.slice (some ⟨g', 0, none⟩) (pre.length + 1) cap')).heap.size := by
          have := hg6.size
          simp [World.setCell] at this ⊢
          exact this
        have hv5 : ((.slice (some ⟨g', 0, none⟩) (pre.length + 1) cap') : Value).ownBlock ≠ some g := fun e => by
          rcases hat7 g e with h | h
          · exact h6 h
          · have := hr4.2; omega
        have hoth : KeepsOthers W4 (w6.setCell ⟨b7, 0, none⟩ (.slice (some ⟨g', 0, none⟩) (pre.length + 1) cap')) := ⟨by omega, fun k o ho hc => by
          refine (hk4 k (Array.getElem?_eq_some_iff.1 ho).1 (fun e => ?_) (fun e => ?_)).trans ho
          · subst e
            have := H1.out
            unfold Boxed at this
            rw [this] at ho
            injection ho with ho
            subst ho
            cases hc
          · obtain ⟨-, -, cur, hh⟩ := own_block H2.out e
            rw [hh] at ho
            injection ho with ho
            subst ho
            cases hc⟩
        have hkk : ∀ k, ((k = bb ∨ S k) ∨ k = g) → (w6.setCell ⟨b7, 0, none⟩ (.slice (some ⟨g', 0, none⟩) (pre.length + 1) cap')).heap[k]? = W4.heap[k]? := by
          intro k hk
          rcases hk with (h | h) | h
          · rw [h]
            exact hk4 bb (by omega) (by omega) (own_other H2.out H4.out (by decide))
          · have := HS.out _ h
            exact hk4 k (by omega) (by omega) (fun e => by have := (own_block H2.out e).1; omega)
          · rw [h]
            exact hk4 g (by have := hr4.2; omega) (by have := hr4.1; omega) h6
        have hown7 : (w6.setCell ⟨b7, 0, none⟩ (.slice (some ⟨g', 0, none⟩) (pre.length + 1) cap')).ownsRow (b7 + 1) 50 1 (.slice (some ⟨g', 0, none⟩) (pre.length + 1) cap') (pre ++ [(a, b)]).length ((grs ++ [(⟨LA, L, lc, W4.heap.size, w5.heap.size⟩ : Gr)]).map Gr.val) := by
          rw [List.map_append, List.length_append]
          exact own_same hown6 (fun q hq => Below.heap_setCell _ _ _ _ (by have := (own_block hown6 hq).1; show q ≠ b7; omega))
        have hbel7 : Below w.heap.size w (w6.setCell ⟨b7, 0, none⟩ (.slice (some ⟨g', 0, none⟩) (pre.length + 1) cap')) := by
          refine Below.setCell ?_ (by show w.heap.size ≤ b7; exact hwb) _
          exact (((H5.out.drew.trans (hb5.mono (by have := H5.out.size; simpa using this))).alloc (by have := H5.out.size; omega) _).grown hg6 (by have := H5.out.size; simp; omega) (fun q hq => by have := (own_block H2.out hq).1; omega))
        have hgr : GrsOk (w6.setCell ⟨b7, 0, none⟩ (.slice (some ⟨g', 0, none⟩) (pre.length + 1) cap')) (bb + 3) (.slice (some ⟨g', 0, none⟩) (pre.length + 1) cap') (grs ++ [(⟨LA, L, lc, W4.heap.size, w5.heap.size⟩ : Gr)]) ((pre ++ [(a, b)]).map fun p => pickV l (seg ps p)) := by
          rw [List.map_append]
          refine GrsOk.snoc (H9.out.keep (by omega) (fun r k hrr h1 h2 => ?_) (fun r lx hrr q hq => ?_)) ⟨hlc, by show bb + 3 ≤ W4.heap.size; omega, by show w5.heap.size ≤ _; omega, ?_, fun q hq => ?_⟩
          · obtain ⟨lx, hrr⟩ : ∃ lx, GrOk W4 (bb + 3) v r lx := by
              rcases hrr with h | h
              · exact ⟨_, h⟩
              · exact h
            have e1 := hrr.2.1
            have e2 := hrr.2.2.1
            exact hk4 k (by omega) (by omega) (fun e => hrr.2.2.2.2 k e ⟨h1, h2⟩)
          · rcases hat7 q hq with h | h
            · exact hrr.2.2.2.2 q h
            · have e2 := hrr.2.2.1
              omega
          · refine (hr5.keep fun p hp => World.cell?_of_block (hk5 _ hp.2 ?_ ?_)).more fun b hb => hb
            · have : W4.heap.size ≤ p.block := hp.1
              omega
            · intro e
              have h7 := (own_block H2.out e).2.1
              have : W4.heap.size ≤ p.block := hp.1
              omega
          · show ¬ (W4.heap.size ≤ q ∧ q < w5.heap.size)
            rcases hat7 q hq with h | h
            · have := (own_block H2.out h).2.1
              omega
            · omega
        have HKKK := Lib.hid hkk
        have HO7 := Lib.hid hown7
        have HB7 := Lib.hid hbel7
        have HOTH := Lib.hid hoth
        have HGR := Lib.hid hgr
        have KB := Lib.hid (kb.set (.slice (some ⟨g', 0, none⟩) (pre.length + 1) cap'))
        have HK2 := Lib.hid (hk4 b2 (by omega) (by omega) (fun e => by have := (own_block H2.out e).1; omega))
        clear hkk hown7 hbel7 hoth hgr kb hown6 hg6 hat6 hat7 hk4 hk5 hbx hro hro5 hr5 hb5 HPK hc25 hcb5 hcb hc2
        gi_wp2_with fail
        refine ⟨HOTH.out, ⟨HOTH.out.size, fun k hk => HKKK.out k hk⟩, (.slice (some ⟨g', 0, none⟩) (pre.length + 1) cap'), _, KB.out, HO7.out, fun q u hq => ?_, (HKKK.out bb (.inl (.inl rfl))).trans H4.out, HB7.out, hv5, HK2.out.trans H8.out, HGR.out⟩
        exact (World.cell?_of_block (HKKK.out g (.inr rfl))).trans (H3.out q u hq)
    · rintro D g W ⟨v, grs, h1, h2, h3, h4, h5, h6, h8, h9⟩ hD hK
      rw [hb4s] at hD
      subst hD
      have hc1 := h1.cell
      obtain ⟨cnt, hcnt⟩ : ∃ cnt, (runG (likeK keys ps) m).length = cnt := ⟨_, rfl⟩
      rw [hcnt] at h2
      have hform : ∃ GA gc, v = .slice GA cnt gc := by
        rcases h2.2 with ⟨rfl, h0⟩ | ⟨q, cap, cur, rfl, -⟩
        · exact ⟨none, 0, by rw [h0]⟩
        · exact ⟨_, _, rfl⟩
      obtain ⟨GA, gc, rfl⟩ := hform
      have H2 := Lib.hid h2
      have H5 := Lib.hid h5
      have H9 := Lib.hid h9
      have HD := Lib.hid hK
      have HCNT := Lib.hid hcnt
      clear h1 h2 h3 h4 h5 h6 h8 h9 hcnt
      gi_wp2_with fail
      refine ⟨by simp, .inl ⟨_, _, rfl, run_takeDeferred hK, ?_⟩⟩
      refine ⟨.tuple #[.slice GA cnt gc, .int .i64 0], by simp [results, Tryz.results47, go_sem], H5.out.trans (below_putC W _ (by omega)), Or.inr ⟨rfl, GA, cnt, gc, ps, rfl, HPS.out, ?_, ?_⟩⟩
      · unfold grpV
        rw [HPN.out, List.length_map, HCNT.out]
      · intro i x hx
        unfold grpV at hx
        rw [HPN.out] at hx
        have hi : i < grs.length := by
          have := (List.getElem?_eq_some_iff.1 hx).1
          have := H9.out.1
          omega
        have hri : grs[i]? = some grs[i] := List.getElem?_eq_getElem hi
        have hok := H9.out.2 i _ x hri hx
        generalize grs[i] = r at *
        have hrow := H2.out
        rcases hrow.2 with ⟨he, h0⟩ | ⟨q, cap, cur, he, hb1, hh, -⟩
        · have := hrow.1
          rw [h0] at this
          simp at this
          rw [this] at hi
          simp at hi
        · injection he with he1 he2 he3
          subst he1
          have hcell := hrow.cells (g := q) rfl i r.val (by rw [List.getElem?_map, hri]; rfl)
          rw [Addr.add_lit] at hcell
          have hqD : q ≠ bb + 1 := fun e => by
            rw [e, HD.out] at hh
            cases hh
          have e1 := hok.2.1
          have e2 := hok.2.2.1
          refine ⟨q, 0, r.A, r.n, r.c, rfl, ⟨by omega, by have := (Array.getElem?_eq_some_iff.1 hh).1; simpa using this⟩, (World.cell?_of_block (World.putObj_heap_other hqD)).trans hcell, hok.1, ?_⟩
          exact (hok.2.2.2.1.keep fun p hp => World.cell?_of_block (World.putObj_heap_other (by have := hp.1; omega))).more fun b hb => ⟨by have := hb.1; omega, by have := hb.2; simp; omega⟩
    · intro D c g pre W h
      exact h.elim
  · have hE1 : ((E : Int) == 0) = false := by rw [beq_eq_false_iff_ne]; omega
    gi_wp2_with (refine ⟨trivial, rfl, ?_⟩; refine (callsIn_wide.2 HC).mono ?_; rintro e w1 ⟨rfl, hb1⟩)
    clear HC
    exact ⟨.tuple #[.slice none 0 0, .int .i64 (E : Int)], by simp [results, Tryz.results47, go_sem], hb0.trans (hb1.mono (by omega)), Or.inl ⟨hE0, rfl⟩⟩
end Go.Proofs.YtjjpagdnjafgaaaGreatDoor
