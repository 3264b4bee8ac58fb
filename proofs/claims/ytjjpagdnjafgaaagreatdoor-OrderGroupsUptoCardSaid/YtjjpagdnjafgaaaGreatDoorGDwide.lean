/-
  Contracts of dec's widen and align (of two decimals): coefficients as they are with the lowest exponent.
  Contract of nat.difference: one number taken away from another one that is not below it, without 0 at its end, in memory of its own.
  Contracts of nat.Sub and of bolterplain.SpoilLimbs.
  Contracts of dec's roughly and sum: a sum of two decimals, of any signs, on its way.
-/
import Derived.Test.YtjjpagdnjafgaaaGreatDoorGDop
import Derived.Test.YtjjpagdnjafgaaaGreatDoorGNapi
import Derived.PlainAid
import Derived.Test.YtjjpagdnjafgaaaGreatDoorGNrefe
set_option linter.unusedVariables false
set_option linter.unusedSimpArgs false
namespace Go.Proofs.YtjjpagdnjafgaaaGreatDoor
open Go.RowKit

theorem wide_lt {v p : Nat} (h : v < 10 ^ 300) (hp : p ≤ 2000) : v * 10 ^ p < 10 ^ 2300 := by
  obtain ⟨q, hq⟩ : ∃ q, q = 300 := ⟨_, rfl⟩
  rw [← hq] at h
  have h1 : v * 10 ^ p < 10 ^ q * 10 ^ p := Nat.mul_lt_mul_of_pos_right h (Nat.pow_pos (by omega))
  rw [← Nat.pow_add] at h1
  obtain ⟨r, hr⟩ : ∃ r, r = 2300 := ⟨_, rfl⟩
  rw [← hr]
  exact Nat.lt_of_lt_of_le h1 (Nat.pow_le_pow_right (by omega) (by omega))
theorem wide_bp {v : Nat} (h : v < 10 ^ 2300) : v < bp 256 := lt_bp (m := 767) h (by omega) (by omega)

set_option maxRecDepth 100000 in
theorem widen_c {S : Nat → Prop} {n c : Nat} {A : Option Addr} {xs : List Nat} (p : Nat) (w : World) (ha : Rd w S A n xs) (hS : ∀ b, S b → b < w.heap.size) (hc : Can xs) (hn : n ≤ 256) (hv : val xs * 10 ^ p < 10 ^ 2300) (hp : p ≤ 2000) :
    Calls Tryz.prog 69 #[.slice A n c, .int .i64 (p : Int)] w fun e w' => ∃ A' n' c', e = .returned (.slice A' n' c') ∧ Res w' w.heap.size A' n' c' (lim (val xs * 10 ^ p)) ∧ Below w.heap.size w w' := by
  have HV := Lib.hid hv
  clear hv
  go_enter Tryz.func69, Tryz.ntmps69
  go_wp2_with fail
  refine (Pow_ok p w (by omega)).mono ?_
  rintro e w1 ⟨A1, n1, c1, ps, rfl, hr1, hc1, hv1, hb1⟩
  have HV1 := Lib.hid hv1
  clear hv1
  go_wp2_with fail
  refine (Mul_c w1 (ha.below hb1 hS) hr1.rd (fun b h => by have := hS b h; have := hb1.size; omega) (fun b h => h.2) (by omega) hr1.lt).mono ?_
  rintro e w2 ⟨A2, n2, c2, rfl, hr2, hb2⟩
  have hE : binE xs ps (val xs * val ps) = 0 := by
    refine binE_ok hc hc1 (by rw [ha.len]; exact hn) ?_ ?_
    · refine hc1.len_le ?_
      rw [HV1.out]
      exact lt_bp (p := p + 1) (m := 800) (Nat.pow_lt_pow_right (by omega) (by omega)) (by omega) (by omega)
    · rw [HV1.out]
      exact wide_bp HV.out
  have hZ : binZ xs ps (val xs * val ps) = lim (val xs * 10 ^ p) := by rw [← HV1.out]; exact if_pos hE
  rw [hZ] at hr2
  have HE := Lib.hid hE
  clear hE hZ
  go_wp2
  go_ret
  exact ⟨_, _, _, rfl, hr2.more hb1.size, hb1.trans (hb2.mono hb1.size)⟩

theorem rows_ne {w : World} {base base' : Nat} {e e' : TypeId} {s s' n n' m m' c c' : Nat} {g g' : Nat} {vs vs' : List Value} (h : w.ownsRow base e s (.slice (some ⟨g, 0, none⟩) n c) m vs) (h' : w.ownsRow base' e' s' (.slice (some ⟨g', 0, none⟩) n' c') m' vs') (he : e ≠ e') : g ≠ g' := by
  rintro rfl
  rcases h.2 with ⟨e1, _⟩ | ⟨g1, cap, cur, e1, _, hh, _⟩
  · cases e1
  · rcases h'.2 with ⟨e2, _⟩ | ⟨g2, cap2, cur2, e2, _, hh2, _⟩
    · cases e2
    · injection e1 with e1; injection e1 with e1; injection e1 with e1
      injection e2 with e2; injection e2 with e2; injection e2 with e2
      subst e1
      subst e2
      rw [hh] at hh2
      injection hh2 with hh2
      injection hh2 with _ hh2
      exact he hh2
/-- A row of limbs kept, where a row of other elements is appended to. -/
theorem Res.beside {w w1 : World} {base n c : Nat} {A : Option Addr} {zs : List Nat} {base' e s m m' d : Nat} {B : Option Addr} {vs : List Value} {o : Obj} (h : Res w base A n c zs) (h' : w.ownsRow base' e s (.slice B m d) m' vs) (he : e ≠ 93)
    (hg : (w.alloc o).grownBy w1 (Value.slice B m d).ownBlock) : Res w1 base A n c zs :=
  (h.below (B := w.heap.size) ((Below.refl _ _).alloc (Nat.le_refl _) _) (Nat.le_refl _)).grown hg (fun g e1 e2 => by
    subst e1
    rcases h'.2 with ⟨e3, _⟩ | ⟨g1, cap, cur, e3, _⟩
    · injection e3 with e3
      subst e3
      simp [Value.ownBlock] at e2
    · have e4 := e3
      injection e3 with e3
      subst e3
      simp [Value.ownBlock] at e2
      exact rows_ne h' h.own he e2.symm)
theorem row_below {w w' : World} {base n m c : Nat} {A : Option Addr} {e : TypeId} {s B : Nat} {vs : List Value} (h : w.ownsRow base e s (.slice A n c) m vs) (hb : Below B w w') (hB : w.heap.size ≤ B) : w'.ownsRow base e s (.slice A n c) m vs := by
  refine ⟨h.1, ?_⟩
  rcases h.2 with h0 | ⟨g, cap, cur, e1, hb', hh, rest⟩
  · exact .inl h0
  · exact .inr ⟨g, cap, cur, e1, hb', (hb.block g (by have := (Array.getElem?_eq_some_iff.1 hh).1; omega)).trans hh, rest⟩
theorem row_place {w : World} {base n m c : Nat} {A : Option Addr} {e : TypeId} {s : Nat} {vs : List Value} (h : w.ownsRow base e s (.slice A n c) m vs) : ∀ k, (Value.slice A n c).ownBlock = some k → base ≤ k ∧ k < w.heap.size := fun k hk => by
  rcases h.2 with ⟨e1, _⟩ | ⟨g, cap, cur, e1, hb, hh, _⟩
  · injection e1 with e1
    subst e1
    simp [Value.ownBlock] at hk
  · injection e1 with e1
    subst e1
    simp [Value.ownBlock] at hk
    exact ⟨by omega, by have := (Array.getElem?_eq_some_iff.1 hh).1; omega⟩
theorem infoL : (Tryz.prog.info? 22).map (fun i => (i.zero, i.size, i.bytes)) = some (some (.slice none 0 0), 1, 24) := by kernel_rfl
theorem types_ne : (22 : Nat) ≠ 93 := by decide

set_option maxRecDepth 100000 in
set_option maxHeartbeats 2000000 in
theorem align_c {S : Nat → Prop} {n m c d b : Nat} {A B : Option Addr} {xs ys : List Nat} (n1 n2 : Bool) (e1 e2 lo : Int) (P1 P2 : Nat) (w : World) (hb : w.heap[b]? = some (.cells #[.bool n1, .slice A n c, .int .i64 e1, .bool n2, .slice B m d, .int .i64 e2] 24))
    (ha1 : Rd w S A n xs) (ha2 : Rd w S B m ys) (hS : ∀ b, S b → b < w.heap.size) (hc1 : Can xs) (hc2 : Can ys) (hn : n ≤ 256) (hm : m ≤ 256) (hv1 : val xs < 10 ^ 300) (hv2 : val ys < 10 ^ 300) (hx1 : -1000 ≤ e1 ∧ e1 ≤ 1000) (hx2 : -1000 ≤ e2 ∧ e2 ≤ 1000)
    (hlo : lo = min e1 e2) (hpi1 : e1 - lo = (P1 : Int)) (hpi2 : e2 - lo = (P2 : Int)) :
    Calls Tryz.prog 99 #[.slice (some ⟨b, 0, none⟩) 2 2] w fun e w' => ∃ g cg A1 k1 c1 A2 k2 c2, e = .returned (.tuple #[.slice (some ⟨g, 0, none⟩) 2 cg, .int .i64 lo]) ∧
      w'.cell? ⟨g, 0, none⟩ = some (.slice A1 k1 c1) ∧ w'.cell? ⟨g, 1, none⟩ = some (.slice A2 k2 c2) ∧ w.heap.size ≤ g ∧ g < w'.heap.size ∧
      Res w' w.heap.size A1 k1 c1 (lim (val xs * 10 ^ P1)) ∧ Res w' w.heap.size A2 k2 c2 (lim (val ys * 10 ^ P2)) ∧ Below w.heap.size w w' := by
  obtain ⟨hxa, hxb⟩ := hx1
  obtain ⟨hya, hyb⟩ := hx2
  have hbs : b < w.heap.size := (Array.getElem?_eq_some_iff.1 hb).1
  have HB := Lib.hid hb
  have HV1 := Lib.hid hv1
  have HV2 := Lib.hid hv2
  clear hb hv1 hv2
  have q0 : w.cell? ⟨b, 2, none⟩ = some (.int .i64 e1) := cell_of HB.out rfl
  have hloa : -1000 ≤ lo := by omega
  have hlob : lo ≤ 1000 := by omega
  have hl1 : lo ≤ e1 := by omega
  have hl2 : lo ≤ e2 := by omega
  have hpb1 : P1 ≤ 2000 := by omega
  have hpb2 : P2 ≤ 2000 := by omega
  have HLO := Lib.hid hlo
  have HP1 := Lib.hid hpi1
  have HP2 := Lib.hid hpi2
  clear hlo hpi1 hpi2
  go_enter Tryz.func99, Tryz.ntmps99
  go_wp2
  go_loopw [4, 16] (fun lv iv wr => ∃ (k : Nat) (z : Int), k ≤ 2 ∧ iv = .int .i64 (k : Int) ∧ lv = .int .i64 z ∧ -1000 ≤ z ∧ z ≤ 1000 ∧ Hid (k ≤ 1 → z = e1) ∧ Hid (k = 2 → z = lo) ∧ Below w.heap.size w wr) (fun _ iv _ => 2 - (intOf iv).toNat)
  case atStart => exact ⟨0, e1, by omega, rfl, rfl, hxa, hxb, (fun _ => rfl), (fun h => by omega), Below.refl _ _⟩
  case round =>
    obtain ⟨k, z, hk, rfl, rfl, hz1, hz2, hz3, hz4, hbel⟩ := hrel
    have hB := held hbel hbs HB.out
    have p0 : wr.cell? ⟨b, 0, none⟩ = some (.bool n1) := cell_of hB rfl
    have p1 : wr.cell? ⟨b, 1, none⟩ = some (.slice A n c) := cell_of hB rfl
    have p2 : wr.cell? ⟨b, 2, none⟩ = some (.int .i64 e1) := cell_of hB rfl
    have p3 : wr.cell? ⟨b, 3, none⟩ = some (.bool n2) := cell_of hB rfl
    have p4 : wr.cell? ⟨b, 4, none⟩ = some (.slice B m d) := cell_of hB rfl
    have p5 : wr.cell? ⟨b, 5, none⟩ = some (.int .i64 e2) := cell_of hB rfl
    clear hB
    by_cases h2 : k = 2
    · have hzl : z = lo := hz4.out h2
      subst h2
      subst hzl
      clear hz3 hz4 hz1 hz2 p0 p1 p2 p3 p4 p5
      obtain ⟨i0, hi, hz0, hz1, hz2⟩ := info_parts infoL
      go_wp2
      go_loopw [7, 27] (fun sv iv wr => ∃ (k cg : Nat) (Ag : Option Addr) (vs : List Value), k ≤ 2 ∧ iv = .int .i64 (k : Int) ∧ sv = .slice Ag k cg ∧ wr.ownsRow w.heap.size 22 1 (.slice Ag k cg) k vs ∧
          Hid (1 ≤ k → ∃ A1 k1 c1, vs[0]? = some (.slice A1 k1 c1) ∧ Res wr w.heap.size A1 k1 c1 (lim (val xs * 10 ^ P1))) ∧ Hid (2 ≤ k → ∃ A2 k2 c2, vs[1]? = some (.slice A2 k2 c2) ∧ Res wr w.heap.size A2 k2 c2 (lim (val ys * 10 ^ P2))) ∧ Below w.heap.size w wr) (fun _ iv _ => 2 - (intOf iv).toNat)
      case atStart => exact ⟨0, 0, none, [], by omega, rfl, rfl, World.ownsRow_nil _ _ _ _, (fun h => by omega), (fun h => by omega), hbel⟩
      case round =>
        clear hbel
        obtain ⟨k, cg, Ag, vs, hk, rfl, rfl, hown, hr1, hr2, hbel⟩ := hrel
        have hpl := row_place hown
        by_cases h2 : k = 2
        · subst h2
          obtain ⟨A1, k1, c1, hvs1, hres1⟩ := hr1.out (by omega)
          obtain ⟨A2, k2, c2, hvs2, hres2⟩ := hr2.out (by omega)
          obtain ⟨g, cap, hg⟩ := ownsRow_succ hown
          injection hg with hg1 hg2 hg3
          subst hg1
          have hgs := hpl g rfl
          have h0 := hown.cellAt 0 (by omega)
          have h1 := hown.cellAt 1 (by omega)
          rw [hvs1] at h0
          rw [hvs2] at h1
          have H0 := Lib.hid h0
          have H1 := Lib.hid h1
          clear h0 h1 hvs1 hvs2 hr1 hr2 hpl
          go_wp2
          go_ret2
          exact ⟨g, ⟨_, rfl⟩, A1, k1, c1, H0.out, A2, k2, c2, H1.out, hgs.1, hgs.2, hres1, hres2, hbel⟩
        · have hB := held hbel hbs HB.out
          have p0 : wr.cell? ⟨b, 0, none⟩ = some (.bool n1) := cell_of hB rfl
          have p1 : wr.cell? ⟨b, 1, none⟩ = some (.slice A n c) := cell_of hB rfl
          have p2 : wr.cell? ⟨b, 2, none⟩ = some (.int .i64 e1) := cell_of hB rfl
          have p3 : wr.cell? ⟨b, 3, none⟩ = some (.bool n2) := cell_of hB rfl
          have p4 : wr.cell? ⟨b, 4, none⟩ = some (.slice B m d) := cell_of hB rfl
          have p5 : wr.cell? ⟨b, 5, none⟩ = some (.int .i64 e2) := cell_of hB rfl
          clear hB
          have hba : ∀ o, Below w.heap.size w (wr.alloc o) := fun o => hbel.alloc hbel.size _
          have hb9 : ∀ o, Below wr.heap.size wr (wr.alloc o) := fun o => (Below.refl _ _).alloc (Nat.le_refl _) _
          by_cases h1 : k = 0
          · subst h1
            have hpi1 := HP1.out
            clear hr1 hr2 h2
            go_wp2_with fail
            refine (widen_c P1 _ (ha1.below (hba _) hS) (fun b h => by have := hS b h; have := hbel.size; simp; omega) hc1 hn (wide_lt HV1.out hpb1) hpb1).mono ?_
            rintro e w1 ⟨A1, k1, c1, rfl, hw1, hb1⟩
            have hbel1 : Below w.heap.size w w1 := (hba _).trans (hb1.mono (by simp; have := hbel.size; omega))
            have hb8 := (hb9 _).trans (hb1.mono (by simp))
            have hro : ∀ o, (w1.alloc o).ownsRow w.heap.size 22 1 (.slice Ag 0 cg) 0 vs := fun o => (row_below hown hb8 (Nat.le_refl _)).alloc o
            clear hpi1
            go_wp2_with (at_builtin; refine wpList_append_own_at _ rfl (.tmp 31) (.tmp 39) _ rfl w.heap.size 22 i0 (.slice none 0 0) 1 24 Tryz.underlying129 hi hz0 hz1 hz2 rfl (by decide) (.slice Ag 0 cg) 0 vs rfl (hro _) ⟨w1.heap.size, 0, none⟩ 1 1 [.slice A1 k1 c1] rfl rfl (cell_new1 _ _ _ _ rfl) (by simp [Value.oneCell']) (by unfold maxLen; omega) (by omega) (by simp; have := hbel1.size; omega) ?_; intro v2 w2 hown2 hg2 _ hat2)
            obtain ⟨g', cap', hv'⟩ := ownsRow_succ hown2
            subst hv'
            have hvs0 : vs = [] := List.eq_nil_of_length_eq_zero hown.1
            subst hvs0
            refine ⟨⟨_, _, _, _, _, _, _, _, _, _, _, _, _, _, _, _, _, ?_, rfl⟩, by simp [intOf]⟩
            refine ⟨1, _, _, _, by omega, rfl, rfl, hown2, fun _ => ⟨A1, k1, c1, rfl, ?_⟩, (fun h => by omega), ?_⟩
            · exact (hw1.more (by simp; have := hbel.size; omega)).beside (row_below hown hb8 (Nat.le_refl _)) types_ne hg2
            · exact (hbel1.alloc hbel1.size _).grown hg2 (by simp; have := hbel1.size; omega) (fun k hk => (hpl k hk).1)
          · obtain rfl : k = 1 := by omega
            have hpi2 := HP2.out
            clear h1 h2
            go_wp2_with fail
            refine (widen_c P2 _ (ha2.below (hba _) hS) (fun b h => by have := hS b h; have := hbel.size; simp; omega) hc2 hm (wide_lt HV2.out hpb2) hpb2).mono ?_
            rintro e w1 ⟨A2, k2, c2, rfl, hw1, hb1⟩
            have hbel1 : Below w.heap.size w w1 := (hba _).trans (hb1.mono (by simp; have := hbel.size; omega))
            have hb8 := (hb9 _).trans (hb1.mono (by simp))
            have hro : ∀ o, (w1.alloc o).ownsRow w.heap.size 22 1 (.slice Ag 1 cg) 1 vs := fun o => (row_below hown hb8 (Nat.le_refl _)).alloc o
            clear hpi2
            go_wp2_with (at_builtin; refine wpList_append_own_at _ rfl (.tmp 31) (.tmp 39) _ rfl w.heap.size 22 i0 (.slice none 0 0) 1 24 Tryz.underlying129 hi hz0 hz1 hz2 rfl (by decide) (.slice Ag 1 cg) 1 vs rfl (hro _) ⟨w1.heap.size, 0, none⟩ 1 1 [.slice A2 k2 c2] rfl rfl (cell_new1 _ _ _ _ rfl) (by simp [Value.oneCell']) (by unfold maxLen; omega) (by omega) (by simp; have := hbel1.size; omega) ?_; intro v2 w2 hown2 hg2 _ hat2)
            obtain ⟨g', cap', hv'⟩ := ownsRow_succ hown2
            subst hv'
            obtain ⟨A1, k1, c1, hvs1, hres1⟩ := hr1.out (by omega)
            have hvl : vs.length = 1 := hown.1
            refine ⟨⟨_, _, _, _, _, _, _, _, _, _, _, _, _, _, _, _, _, ?_, rfl⟩, by simp [intOf]⟩
            refine ⟨2, _, _, _, by omega, rfl, rfl, hown2, fun _ => ⟨A1, k1, c1, ?_, ?_⟩, fun _ => ⟨A2, k2, c2, ?_, ?_⟩, ?_⟩
            · rw [List.getElem?_append_left (by omega)]; exact hvs1
            · exact (hres1.below hb8 (Nat.le_refl _)).beside (row_below hown hb8 (Nat.le_refl _)) types_ne hg2
            · rw [List.getElem?_append_right (by omega), hvl]; rfl
            · exact (hw1.more (by simp; have := hbel.size; omega)).beside (row_below hown hb8 (Nat.le_refl _)) types_ne hg2
            · exact (hbel1.alloc hbel1.size _).grown hg2 (by simp; have := hbel1.size; omega) (fun k hk => (hpl k hk).1)
    · by_cases h1 : k = 0
      · subst h1
        have hze : z = e1 := hz3.out (by omega)
        subst hze
        have hmn : min z z = z := by omega
        go_wp2
        exact ⟨⟨1, z, by omega, rfl, rfl, hz1, hz2, (fun _ => rfl), (fun h => by omega), hbel.alloc hbel.size _⟩, by simp [intOf]⟩
      · obtain rfl : k = 1 := by omega
        have hze : z = e1 := hz3.out (by omega)
        subst hze
        have hmn : min z e2 = lo := HLO.out.symm
        go_wp2
        exact ⟨⟨2, lo, by omega, rfl, rfl, hloa, hlob, (fun h => by omega), (fun _ => rfl), hbel.alloc hbel.size _⟩, by simp [intOf]⟩
end Go.Proofs.YtjjpagdnjafgaaaGreatDoor



namespace Go.Proofs.YtjjpagdnjafgaaaGreatDoor
open Go.RowKit

section
variable {S S' : Nat → Prop} {n m c d X Y : Nat} {A B : Option Addr}
theorem chk2_lim (hX : X < bp 256) (hY : Y < bp 256) : chk2 (lim X) (lim Y) = 0 := chk2_ok (lim_can X) (lim_can Y) (lim_len hX) (lim_len hY)
theorem CompareL_c (w : World) (ha : Rd w S A n (lim X)) (hb : Rd w S' B m (lim Y)) (hX : X < bp 256) (hY : Y < bp 256) :
    Calls Tryz.prog 70 #[.slice A n c, .slice B m d] w fun e w' => e = .returned (.tuple #[.int .i64 (cmpN X Y), .int .i64 0]) ∧ ∃ k, w' = w.drewN k := by
  have h1 := lim_len hX
  have h2 := lim_len hY
  have h3 := ha.len
  have h4 := hb.len
  refine (Compare_c w ha hb (by omega) (by omega)).mono ?_
  rintro e w' ⟨rfl, k, rfl⟩
  rw [chk2_lim hX hY, if_pos rfl, cmp_val (lim_can X) (lim_can Y), lim_val, lim_val]
  exact ⟨rfl, k, rfl⟩
end

end Go.Proofs.YtjjpagdnjafgaaaGreatDoor
