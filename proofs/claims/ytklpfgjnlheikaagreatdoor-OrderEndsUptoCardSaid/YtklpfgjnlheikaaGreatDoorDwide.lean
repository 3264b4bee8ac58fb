/-
  Contracts of dec's widen and align (of two decimals): coefficients as they are with the lowest exponent.
  Contract of nat.difference: one number taken away from another one that is not below it, without 0 at its end, in memory of its own.
  Contracts of nat.Sub and of bolterplain.SpoilLimbs.
  Contracts of dec's roughly and sum: a sum of two decimals, of any signs, on its way.
-/
import Derived.Test.YtklpfgjnlheikaaGreatDoorDop
import Derived.Test.YtklpfgjnlheikaaGreatDoorNapi
import Derived.PlainAid
import Derived.Test.YtklpfgjnlheikaaGreatDoorNrefe
set_option linter.unusedVariables false
set_option linter.unusedSimpArgs false
namespace Go.Proofs.YtklpfgjnlheikaaGreatDoor
open Go.RowKit

theorem wide_lt {v p : Nat} (h : v < 10 ^ 300) (hp : p ≤ 2000) : v * 10 ^ p < 10 ^ 2300 := by
  obtain ⟨q, hq⟩ : ∃ q, q = 300 := ⟨_, rfl⟩
  rw [← hq] at h
  have h1 : v * 10 ^ p < 10 ^ q * 10 ^ p := Nat.mul_lt_mul_of_pos_right h (Nat.pow_pos (by omega))
  rw [← Nat.pow_add] at h1
  obtain ⟨r, hr⟩ : ∃ r, r = 2300 := ⟨_, rfl⟩
  rw [← hr]
  exact Nat.lt_of_lt_of_le h1 (Nat.pow_le_pow_right (by omega) (by omega))
theorem wide_bp {v : Nat} (h : v < 10 ^ 2300) : v < bp 256 := lt_bp (m := 767) h (by omega) (by omega)

set_option maxRecDepth 100000 in
theorem widen_c {S : Nat → Prop} {n c : Nat} {A : Option Addr} {xs : List Nat} (p : Nat) (w : World) (ha : Rd w S A n xs) (hS : ∀ b, S b → b < w.heap.size) (hc : Can xs) (hn : n ≤ 256) (hv : val xs * 10 ^ p < 10 ^ 2300) (hp : p ≤ 2000) :
    Calls Tryz.prog 69 #[.slice A n c, .int .i64 (p : Int)] w fun e w' => ∃ A' n' c', e = .returned (.slice A' n' c') ∧ Res w' w.heap.size A' n' c' (lim (val xs * 10 ^ p)) ∧ Below w.heap.size w w' := by
  have HV := Lib.hid hv
  clear hv
  go_enter Tryz.func69, Tryz.ntmps69
  go_wp2_with fail
  refine (Pow_ok p w (by omega)).mono ?_
  rintro e w1 ⟨A1, n1, c1, ps, rfl, hr1, hc1, hv1, hb1⟩
  have HV1 := Lib.hid hv1
  clear hv1
  go_wp2_with fail
  refine (Mul_c w1 (ha.below hb1 hS) hr1.rd (fun b h => by have := hS b h; have := hb1.size; omega) (fun b h => h.2) (by omega) hr1.lt).mono ?_
  rintro e w2 ⟨A2, n2, c2, rfl, hr2, hb2⟩
  have hE : binE xs ps (val xs * val ps) = 0 := by
    refine binE_ok hc hc1 (by rw [ha.len]; exact hn) ?_ ?_
    · refine hc1.len_le ?_
      rw [HV1.out]
      exact lt_bp (p := p + 1) (m := 800) (Nat.pow_lt_pow_right (by omega) (by omega)) (by omega) (by omega)
    · rw [HV1.out]
      exact wide_bp HV.out
  have hZ : binZ xs ps (val xs * val ps) = lim (val xs * 10 ^ p) := by rw [← HV1.out]; exact if_pos hE
  rw [hZ] at hr2
  have HE := Lib.hid hE
  clear hE hZ
  go_wp2
  go_ret
  exact ⟨_, _, _, rfl, hr2.more hb1.size, hb1.trans (hb2.mono hb1.size)⟩

theorem rows_ne {w : World} {base base' : Nat} {e e' : TypeId} {s s' n n' m m' c c' : Nat} {g g' : Nat} {vs vs' : List Value} (h : w.ownsRow base e s (.slice (some ⟨g, 0, none⟩) n c) m vs) (h' : w.ownsRow base' e' s' (.slice (some ⟨g', 0, none⟩) n' c') m' vs') (he : e ≠ e') : g ≠ g' := by
  rintro rfl
  rcases h.2 with ⟨e1, _⟩ | ⟨g1, cap, cur, e1, _, hh, _⟩
  · cases e1
  · rcases h'.2 with ⟨e2, _⟩ | ⟨g2, cap2, cur2, e2, _, hh2, _⟩
    · cases e2
    · injection e1 with e1; injection e1 with e1; injection e1 with e1
      injection e2 with e2; injection e2 with e2; injection e2 with e2
      subst e1
      subst e2
      rw [hh] at hh2
      injection hh2 with hh2
      injection hh2 with _ hh2
      exact he hh2
/-- A row of limbs kept, where a row of other elements is appended to. -/
theorem Res.beside {w w1 : World} {base n c : Nat} {A : Option Addr} {zs : List Nat} {base' e s m m' d : Nat} {B : Option Addr} {vs : List Value} {o : Obj} (h : Res w base A n c zs) (h' : w.ownsRow base' e s (.slice B m d) m' vs) (he : e ≠ 93)
    (hg : (w.alloc o).grownBy w1 (Value.slice B m d).ownBlock) : Res w1 base A n c zs :=
  (h.below (B := w.heap.size) ((Below.refl _ _).alloc (Nat.le_refl _) _) (Nat.le_refl _)).grown hg (fun g e1 e2 => by
    subst e1
    rcases h'.2 with ⟨e3, _⟩ | ⟨g1, cap, cur, e3, _⟩
    · injection e3 with e3
      subst e3
      simp [Value.ownBlock] at e2
    · have e4 := e3
      injection e3 with e3
      subst e3
      simp [Value.ownBlock] at e2
      exact rows_ne h' h.own he e2.symm)
theorem row_below {w w' : World} {base n m c : Nat} {A : Option Addr} {e : TypeId} {s B : Nat} {vs : List Value} (h : w.ownsRow base e s (.slice A n c) m vs) (hb : Below B w w') (hB : w.heap.size ≤ B) : w'.ownsRow base e s (.slice A n c) m vs := by
  refine ⟨h.1, ?_⟩
  rcases h.2 with h0 | ⟨g, cap, cur, e1, hb', hh, rest⟩
  · exact .inl h0
  · exact .inr ⟨g, cap, cur, e1, hb', (hb.block g (by have := (Array.getElem?_eq_some_iff.1 hh).1; omega)).trans hh, rest⟩
theorem row_place {w : World} {base n m c : Nat} {A : Option Addr} {e : TypeId} {s : Nat} {vs : List Value} (h : w.ownsRow base e s (.slice A n c) m vs) : ∀ k, (Value.slice A n c).ownBlock = some k → base ≤ k ∧ k < w.heap.size := fun k hk => by
  rcases h.2 with ⟨e1, _⟩ | ⟨g, cap, cur, e1, hb, hh, _⟩
  · injection e1 with e1
    subst e1
    simp [Value.ownBlock] at hk
  · injection e1 with e1
    subst e1
    simp [Value.ownBlock] at hk
    exact ⟨by omega, by have := (Array.getElem?_eq_some_iff.1 hh).1; omega⟩
theorem infoL : (Tryz.prog.info? 22).map (fun i => (i.zero, i.size, i.bytes)) = some (some (.slice none 0 0), 1, 24) := by kernel_rfl
theorem types_ne : (22 : Nat) ≠ 93 := by decide

set_option maxRecDepth 100000 in
set_option maxHeartbeats 2000000 in
theorem align_c {S : Nat → Prop} {n m c d b : Nat} {A B : Option Addr} {xs ys : List Nat} (n1 n2 : Bool) (e1 e2 lo : Int) (P1 P2 : Nat) (w : World) (hb : w.heap[b]? = some (.cells #[.bool n1, .slice A n c, .int .i64 e1, .bool n2, .slice B m d, .int .i64 e2] 24))
    (ha1 : Rd w S A n xs) (ha2 : Rd w S B m ys) (hS : ∀ b, S b → b < w.heap.size) (hc1 : Can xs) (hc2 : Can ys) (hn : n ≤ 256) (hm : m ≤ 256) (hv1 : val xs < 10 ^ 300) (hv2 : val ys < 10 ^ 300) (hx1 : -1000 ≤ e1 ∧ e1 ≤ 1000) (hx2 : -1000 ≤ e2 ∧ e2 ≤ 1000)
    (hlo : lo = min e1 e2) (hpi1 : e1 - lo = (P1 : Int)) (hpi2 : e2 - lo = (P2 : Int)) :
    Calls Tryz.prog 99 #[.slice (some ⟨b, 0, none⟩) 2 2] w fun e w' => ∃ g cg A1 k1 c1 A2 k2 c2, e = .returned (.tuple #[.slice (some ⟨g, 0, none⟩) 2 cg, .int .i64 lo]) ∧
      w'.cell? ⟨g, 0, none⟩ = some (.slice A1 k1 c1) ∧ w'.cell? ⟨g, 1, none⟩ = some (.slice A2 k2 c2) ∧ w.heap.size ≤ g ∧ g < w'.heap.size ∧
      Res w' w.heap.size A1 k1 c1 (lim (val xs * 10 ^ P1)) ∧ Res w' w.heap.size A2 k2 c2 (lim (val ys * 10 ^ P2)) ∧ Below w.heap.size w w' := by
  obtain ⟨hxa, hxb⟩ := hx1
  obtain ⟨hya, hyb⟩ := hx2
  have hbs : b < w.heap.size := (Array.getElem?_eq_some_iff.1 hb).1
  have HB := Lib.hid hb
  have HV1 := Lib.hid hv1
  have HV2 := Lib.hid hv2
  clear hb hv1 hv2
  have q0 : w.cell? ⟨b, 2, none⟩ = some (.int .i64 e1) := cell_of HB.out rfl
  have hloa : -1000 ≤ lo := by omega
  have hlob : lo ≤ 1000 := by omega
  have hl1 : lo ≤ e1 := by omega
  have hl2 : lo ≤ e2 := by omega
  have hpb1 : P1 ≤ 2000 := by omega
  have hpb2 : P2 ≤ 2000 := by omega
  have HLO := Lib.hid hlo
  have HP1 := Lib.hid hpi1
  have HP2 := Lib.hid hpi2
  clear hlo hpi1 hpi2
  go_enter Tryz.func99, Tryz.ntmps99
  go_wp2
  go_loopw [4, 16] (fun lv iv wr => ∃ (k : Nat) (z : Int), k ≤ 2 ∧ iv = .int .i64 (k : Int) ∧ lv = .int .i64 z ∧ -1000 ≤ z ∧ z ≤ 1000 ∧ Hid (k ≤ 1 → z = e1) ∧ Hid (k = 2 → z = lo) ∧ Below w.heap.size w wr) (fun _ iv _ => 2 - (intOf iv).toNat)
  case atStart => exact ⟨0, e1, by omega, rfl, rfl, hxa, hxb, (fun _ => rfl), (fun h => by omega), Below.refl _ _⟩
  case round =>
    obtain ⟨k, z, hk, rfl, rfl, hz1, hz2, hz3, hz4, hbel⟩ := hrel
    have hB := held hbel hbs HB.out
    have p0 : wr.cell? ⟨b, 0, none⟩ = some (.bool n1) := cell_of hB rfl
    have p1 : wr.cell? ⟨b, 1, none⟩ = some (.slice A n c) := cell_of hB rfl
    have p2 : wr.cell? ⟨b, 2, none⟩ = some (.int .i64 e1) := cell_of hB rfl
    have p3 : wr.cell? ⟨b, 3, none⟩ = some (.bool n2) := cell_of hB rfl
    have p4 : wr.cell? ⟨b, 4, none⟩ = some (.slice B m d) := cell_of hB rfl
    have p5 : wr.cell? ⟨b, 5, none⟩ = some (.int .i64 e2) := cell_of hB rfl
    clear hB
    by_cases h2 : k = 2
    · have hzl : z = lo := hz4.out h2
      subst h2
      subst hzl
      clear hz3 hz4 hz1 hz2 p0 p1 p2 p3 p4 p5
      obtain ⟨i0, hi, hz0, hz1, hz2⟩ := info_parts infoL
      go_wp2
      go_loopw [7, 27] (fun sv iv wr => ∃ (k cg : Nat) (Ag : Option Addr) (vs : List Value), k ≤ 2 ∧ iv = .int .i64 (k : Int) ∧ sv = .slice Ag k cg ∧ wr.ownsRow w.heap.size 22 1 (.slice Ag k cg) k vs ∧
          Hid (1 ≤ k → ∃ A1 k1 c1, vs[0]? = some (.slice A1 k1 c1) ∧ Res wr w.heap.size A1 k1 c1 (lim (val xs * 10 ^ P1))) ∧ Hid (2 ≤ k → ∃ A2 k2 c2, vs[1]? = some (.slice A2 k2 c2) ∧ Res wr w.heap.size A2 k2 c2 (lim (val ys * 10 ^ P2))) ∧ Below w.heap.size w wr) (fun _ iv _ => 2 - (intOf iv).toNat)
      case atStart => exact ⟨0, 0, none, [], by omega, rfl, rfl, World.ownsRow_nil _ _ _ _, (fun h => by omega), (fun h => by omega), hbel⟩
      case round =>
        clear hbel
        obtain ⟨k, cg, Ag, vs, hk, rfl, rfl, hown, hr1, hr2, hbel⟩ := hrel
        have hpl := row_place hown
        by_cases h2 : k = 2
        · subst h2
          obtain ⟨A1, k1, c1, hvs1, hres1⟩ := hr1.out (by omega)
          obtain ⟨A2, k2, c2, hvs2, hres2⟩ := hr2.out (by omega)
          obtain ⟨g, cap, hg⟩ := ownsRow_succ hown
          injection hg with hg1 hg2 hg3
          subst hg1
          have hgs := hpl g rfl
          have h0 := hown.cellAt 0 (by omega)
          have h1 := hown.cellAt 1 (by omega)
          rw [hvs1] at h0
          rw [hvs2] at h1
          have H0 := Lib.hid h0
          have H1 := Lib.hid h1
          clear h0 h1 hvs1 hvs2 hr1 hr2 hpl
          go_wp2
          go_ret2
          exact ⟨g, ⟨_, rfl⟩, A1, k1, c1, H0.out, A2, k2, c2, H1.out, hgs.1, hgs.2, hres1, hres2, hbel⟩
        · have hB := held hbel hbs HB.out
          have p0 : wr.cell? ⟨b, 0, none⟩ = some (.bool n1) := cell_of hB rfl
          have p1 : wr.cell? ⟨b, 1, none⟩ = some (.slice A n c) := cell_of hB rfl
          have p2 : wr.cell? ⟨b, 2, none⟩ = some (.int .i64 e1) := cell_of hB rfl
          have p3 : wr.cell? ⟨b, 3, none⟩ = some (.bool n2) := cell_of hB rfl
          have p4 : wr.cell? ⟨b, 4, none⟩ = some (.slice B m d) := cell_of hB rfl
          have p5 : wr.cell? ⟨b, 5, none⟩ = some (.int .i64 e2) := cell_of hB rfl
          clear hB
          have hba : ∀ o, Below w.heap.size w (wr.alloc o) := fun o => hbel.alloc hbel.size _
          have hb9 : ∀ o, Below wr.heap.size wr (wr.alloc o) := fun o => (Below.refl _ _).alloc (Nat.le_refl _) _
          by_cases h1 : k = 0
          · subst h1
            have hpi1 := HP1.out
            clear hr1 hr2 h2
            go_wp2_with fail
            refine (widen_c P1 _ (ha1.below (hba _) hS) (fun b h => by have := hS b h; have := hbel.size; simp; omega) hc1 hn (wide_lt HV1.out hpb1) hpb1).mono ?_
            rintro e w1 ⟨A1, k1, c1, rfl, hw1, hb1⟩
            have hbel1 : Below w.heap.size w w1 := (hba _).trans (hb1.mono (by simp; have := hbel.size; omega))
            have hb8 := (hb9 _).trans (hb1.mono (by simp))
            have hro : ∀ o, (w1.alloc o).ownsRow w.heap.size 22 1 (.slice Ag 0 cg) 0 vs := fun o => (row_below hown hb8 (Nat.le_refl _)).alloc o
            clear hpi1
            go_wp2_with (at_builtin; refine wpList_append_own_at _ rfl (.tmp 31) (.tmp 39) _ rfl w.heap.size 22 i0 (.slice none 0 0) 1 24 Tryz.underlying129 hi hz0 hz1 hz2 rfl (by decide) (.slice Ag 0 cg) 0 vs rfl (hro _) ⟨w1.heap.size, 0, none⟩ 1 1 [.slice A1 k1 c1] rfl rfl (cell_new1 _ _ _ _ rfl) (by simp [Value.oneCell']) (by unfold maxLen; omega) (by omega) (by simp; have := hbel1.size; omega) ?_; intro v2 w2 hown2 hg2 _ hat2)
            obtain ⟨g', cap', hv'⟩ := ownsRow_succ hown2
            subst hv'
            have hvs0 : vs = [] := List.eq_nil_of_length_eq_zero hown.1
            subst hvs0
            refine ⟨⟨_, _, _, _, _, _, _, _, _, _, _, _, _, _, _, _, _, ?_, rfl⟩, by simp [intOf]⟩
            refine ⟨1, _, _, _, by omega, rfl, rfl, hown2, fun _ => ⟨A1, k1, c1, rfl, ?_⟩, (fun h => by omega), ?_⟩
            · exact (hw1.more (by simp; have := hbel.size; omega)).beside (row_below hown hb8 (Nat.le_refl _)) types_ne hg2
            · exact (hbel1.alloc hbel1.size _).grown hg2 (by simp; have := hbel1.size; omega) (fun k hk => (hpl k hk).1)
          · obtain rfl : k = 1 := by omega
            have hpi2 := HP2.out
            clear h1 h2
            go_wp2_with fail
            refine (widen_c P2 _ (ha2.below (hba _) hS) (fun b h => by have := hS b h; have := hbel.size; simp; omega) hc2 hm (wide_lt HV2.out hpb2) hpb2).mono ?_
            rintro e w1 ⟨A2, k2, c2, rfl, hw1, hb1⟩
            have hbel1 : Below w.heap.size w w1 := (hba _).trans (hb1.mono (by simp; have := hbel.size; omega))
            have hb8 := (hb9 _).trans (hb1.mono (by simp))
            have hro : ∀ o, (w1.alloc o).ownsRow w.heap.size 22 1 (.slice Ag 1 cg) 1 vs := fun o => (row_below hown hb8 (Nat.le_refl _)).alloc o
            clear hpi2
            go_wp2_with (at_builtin; refine wpList_append_own_at _ rfl (.tmp 31) (.tmp 39) _ rfl w.heap.size 22 i0 (.slice none 0 0) 1 24 Tryz.underlying129 hi hz0 hz1 hz2 rfl (by decide) (.slice Ag 1 cg) 1 vs rfl (hro _) ⟨w1.heap.size, 0, none⟩ 1 1 [.slice A2 k2 c2] rfl rfl (cell_new1 _ _ _ _ rfl) (by simp [Value.oneCell']) (by unfold maxLen; omega) (by omega) (by simp; have := hbel1.size; omega) ?_; intro v2 w2 hown2 hg2 _ hat2)
            obtain ⟨g', cap', hv'⟩ := ownsRow_succ hown2
            subst hv'
            obtain ⟨A1, k1, c1, hvs1, hres1⟩ := hr1.out (by omega)
            have hvl : vs.length = 1 := hown.1
            refine ⟨⟨_, _, _, _, _, _, _, _, _, _, _, _, _, _, _, _, _, ?_, rfl⟩, by simp [intOf]⟩
            refine ⟨2, _, _, _, by omega, rfl, rfl, hown2, fun _ => ⟨A1, k1, c1, ?_, ?_⟩, fun _ => ⟨A2, k2, c2, ?_, ?_⟩, ?_⟩
            · rw [List.getElem?_append_left (by omega)]; exact hvs1
            · exact (hres1.below hb8 (Nat.le_refl _)).beside (row_below hown hb8 (Nat.le_refl _)) types_ne hg2
            · rw [List.getElem?_append_right (by omega), hvl]; rfl
            · exact (hw1.more (by simp; have := hbel.size; omega)).beside (row_below hown hb8 (Nat.le_refl _)) types_ne hg2
            · exact (hbel1.alloc hbel1.size _).grown hg2 (by simp; have := hbel1.size; omega) (fun k hk => (hpl k hk).1)
    · by_cases h1 : k = 0
      · subst h1
        have hze : z = e1 := hz3.out (by omega)
        subst hze
        have hmn : min z z = z := by omega
        go_wp2
        exact ⟨⟨1, z, by omega, rfl, rfl, hz1, hz2, (fun _ => rfl), (fun h => by omega), hbel.alloc hbel.size _⟩, by simp [intOf]⟩
      · obtain rfl : k = 1 := by omega
        have hze : z = e1 := hz3.out (by omega)
        subst hze
        have hmn : min z e2 = lo := HLO.out.symm
        go_wp2
        exact ⟨⟨2, lo, by omega, rfl, rfl, hloa, hlob, (fun h => by omega), (fun _ => rfl), hbel.alloc hbel.size _⟩, by simp [intOf]⟩
end Go.Proofs.YtklpfgjnlheikaaGreatDoor

namespace Go.Proofs.YtklpfgjnlheikaaGreatDoor
open Go.RowKit
attribute [local go_sem] Oper.semAt_some

/-- One limb less another one, less what was borrowed. -/
theorem diff_limb {x y bo : Nat} (hx : x < 4294967296) (hy : y < 4294967296) (hb : bo ≤ 1) : ∃ e d lo bo2 : Nat, IntKind.u64.wrap ((x : Int) - (y : Int)) = (e : Int) ∧ IntKind.u64.wrap ((e : Int) - (bo : Int)) = (d : Int) ∧
    (d : Int) % 4294967296 = (lo : Int) ∧ (d : Int) / 9223372036854775808 = (bo2 : Int) ∧ lo < 4294967296 ∧ bo2 ≤ 1 ∧ lo + bo + y = x + 4294967296 * bo2 := by
  by_cases h1 : y ≤ x
  · refine ⟨x - y, ?_⟩
    have e1 : IntKind.u64.wrap ((x : Int) - (y : Int)) = ((x - y : Nat) : Int) := by rw [PlainAid.u64_nonneg (by omega) (by omega)]; omega
    by_cases h2 : bo ≤ x - y
    · exact ⟨x - y - bo, x - y - bo, 0, e1, by rw [PlainAid.u64_nonneg (by omega) (by omega)]; omega, by omega, by omega, by omega, by omega, by omega⟩
    · exact ⟨18446744073709551615, 4294967295, 1, e1, by rw [PlainAid.u64_neg (by omega) (by omega)]; omega, by omega, by omega, by omega, by omega, by omega⟩
  · refine ⟨18446744073709551616 + x - y, 18446744073709551616 + x - y - bo, 4294967296 + x - y - bo, 1, ?_, ?_, by omega, by omega, by omega, by omega, by omega⟩
    · rw [PlainAid.u64_neg (by omega) (by omega)]; omega
    · rw [PlainAid.u64_nonneg (by omega) (by omega)]; omega
/-- One round of the difference, in numbers. -/
theorem diff_step {out : List Nat} {k bo bo2 x y lo a b : Nat} (hl : out.length = k) (hv : val out + b = a + bp k * bo) (ht : lo + bo + y = x + 4294967296 * bo2) :
    val (out ++ [lo]) + (b + bp k * y) = (a + bp k * x) + bp (k + 1) * bo2 := by
  rw [val_snoc, hl, bp_succ]
  have e1 : bp k * (lo + bo + y) = bp k * (x + 4294967296 * bo2) := by rw [ht]
  rw [Nat.mul_add, Nat.mul_add, Nat.mul_add] at e1
  have e2 : 4294967296 * bp k * bo2 = bp k * (4294967296 * bo2) := by rw [Nat.mul_comm 4294967296, Nat.mul_assoc]
  omega

set_option maxRecDepth 100000 in
theorem difference_c {S S' : Nat → Prop} {n m c d : Nat} {A B : Option Addr} {xs ys : List Nat} (w : World) (ha : Rd w S A n xs) (hb : Rd w S' B m ys)
    (hS : ∀ b, S b → b < w.heap.size) (hS' : ∀ b, S' b → b < w.heap.size) (hn : n ≤ 1048576) (hmn : m ≤ n) (hle : val ys ≤ val xs) :
    Calls Tryz.prog 144 #[.slice A n c, .slice B m d] w fun e w' => ∃ A' n' c' zs, e = .returned (.slice A' n' c') ∧ Res w' w.heap.size A' n' c' zs ∧ Can zs ∧ val zs + val ys = val xs ∧ Below w.heap.size w w' := by
  refine (callsIn_wide (n := 0)).1 ?_
  refine callsIn_of_wp_marks Tryz.func144 rfl trivial ?_ rfl
  simp only [Tryz.ntmps144, List.size_toArray, List.length_cons, List.length_nil, Nat.reduceAdd, Nat.reduceSub, Array.replicate_succ, Array.replicate_zero, List.push_toArray, List.append_toArray, List.nil_append, List.cons_append]
  have HLE := Lib.hid hle
  clear hle
  have hmx : max n m = n := by omega
  have HN := Lib.hid hmx
  clear hmx
  have hmk := fun W => make_room (z := (n : Int)) n rfl (by omega) W
  gi_wp2_with (refine ⟨trivial, rfl, ?_⟩; gi_at_call 181; refine (callsIn_wide.2 (pairs_c _ _ _ _ _ _ _)).mono ?_; rintro e w' ⟨rfl, rfl⟩)
  clear hmk
  obtain ⟨b0, hb0⟩ : ∃ b0, b0 = w.heap.size := ⟨_, rfl⟩
  obtain ⟨W0, hW0⟩ : ∃ W0, ((((w.alloc (zeros32 n)).alloc (.cells #[.slice (some ⟨w.heap.size, 0, none⟩) 0 n] 22)).alloc (.cells #[.int .u64 0] 97)).alloc (.cells #[.slice A n c] 22)).alloc (.cells #[.slice B m d] 22) = W0 := ⟨_, rfl⟩
  rw [hW0]
  have hz : W0.heap.size = w.heap.size + 5 := by rw [← hW0]; simp
  have hB0 : Below w.heap.size w W0 := by rw [← hW0]; exact (((((Below.refl _ w).alloc (Nat.le_refl _) _).alloc (by simp) _).alloc (by simp; omega) _).alloc (by simp; omega) _).alloc (by simp; omega) _
  have bO : Boxed W0 (w.heap.size + 1) 22 (.slice (some ⟨w.heap.size, 0, none⟩) 0 n) := by
    rw [← hW0]
    have h := Boxed.new (w.alloc (zeros32 n)) 22 (.slice (some ⟨w.heap.size, 0, none⟩) 0 n)
    rw [World.size_alloc] at h
    exact ((h.alloc _).alloc _).alloc _
  have bC : Boxed W0 (w.heap.size + 2) 97 (.int .u64 (0 : Nat)) := by
    rw [← hW0]
    have h := Boxed.new ((w.alloc (zeros32 n)).alloc (.cells #[.slice (some ⟨w.heap.size, 0, none⟩) 0 n] 22)) 97 (.int .u64 (0 : Nat))
    simp only [World.size_alloc, Nat.add_assoc, Nat.reduceAdd] at h
    exact (h.alloc _).alloc _
  have b1 : Boxed W0 (w.heap.size + 3) 22 (.slice A n c) := by
    rw [← hW0]
    have h := Boxed.new (((w.alloc (zeros32 n)).alloc (.cells #[.slice (some ⟨w.heap.size, 0, none⟩) 0 n] 22)).alloc (.cells #[.int .u64 0] 97)) 22 (.slice A n c)
    simp only [World.size_alloc, Nat.add_assoc, Nat.reduceAdd] at h
    exact h.alloc _
  have b2 : Boxed W0 (w.heap.size + 4) 22 (.slice B m d) := by
    rw [← hW0]
    have h := Boxed.new ((((w.alloc (zeros32 n)).alloc (.cells #[.slice (some ⟨w.heap.size, 0, none⟩) 0 n] 22)).alloc (.cells #[.int .u64 0] 97)).alloc (.cells #[.slice A n c] 22)) 22 (.slice B m d)
    simp only [World.size_alloc, Nat.add_assoc, Nat.reduceAdd] at h
    exact h
  have hR0 : Res W0 w.heap.size (some ⟨w.heap.size, 0, none⟩) 0 n [] := by
    refine (Res.room w n (by omega)).below (B := w.heap.size + 1) ?_ (by simp)
    rw [← hW0]
    exact ((((Below.refl _ (w.alloc (zeros32 n))).alloc (by simp) _).alloc (by simp) _).alloc (by simp) _).alloc (by simp) _
  clear hW0
  refine range_law (gf := 222) (lb := #[.pointer (some ⟨w.heap.size + 3, 0, none⟩), .pointer (some ⟨w.heap.size + 4, 0, none⟩)]) rfl (enters_of Tryz.func222 (by kernel_rfl) rfl) (encs := enc2) (xs := pairsL xs ys n)
    (keep := fun k => k = w.heap.size + 3 ∨ k = w.heap.size + 4 ∨ S k ∨ S' k)
    (fun W hW => by
      rw [show pairsL xs ys n = pairsL xs ys (max n m) by rw [HN.out]]
      exact pairs1_iter W ((hW.cell (p := ⟨w.heap.size + 3, 0, none⟩) (by show w.heap.size + 3 < W0.heap.size; omega)).trans b1.cell) ((hW.cell (p := ⟨w.heap.size + 4, 0, none⟩) (by show w.heap.size + 4 < W0.heap.size; omega)).trans b2.cell)
        ((ha.below hB0 hS).below hW (fun b h => by have := hS b h; omega)) ((hb.below hB0 hS').below hW (fun b h => by have := hS' b h; omega)) (by omega) (by omega))
    (fun _ => rfl) (fun k hk => by rcases hk with h | h | h | h <;> first | omega | (have := hS k h; omega) | (have := hS' k h; omega))
    (fun _ pre W => ∃ out bo : _, Boxed W (w.heap.size + 1) 22 (.slice (some ⟨w.heap.size, 0, none⟩) pre.length n) ∧ Boxed W (w.heap.size + 2) 97 (.int .u64 ((bo : Nat) : Int)) ∧
      Res W w.heap.size (some ⟨w.heap.size, 0, none⟩) pre.length n out ∧ bo ≤ 1 ∧ Hid (val out + val (pre.map Prod.snd) = val (pre.map Prod.fst) + bp pre.length * bo) ∧ Below w.heap.size w W)
    ?_ ?_ ?_ ?_
  · rintro r pre X Y row ⟨out, bo, h1, h2, h3, h4, h5, h6⟩ hg hr
    exact ⟨out, bo, h1.kept hg (fun e => by have := (hr _ e.symm).1; omega), h2.kept hg (fun e => by have := (hr _ e.symm).1; omega),
      h3.grown hg (fun g e he => by injection e with e; injection e with e; subst e; have := (hr _ he.symm).1; omega), h4, h5, h6.grown hg h6.size (fun k e => by have := (hr k e).1; omega)⟩
  · intro r W hW _
    exact ⟨[], 0, (hW.block _ (by omega)).trans bO, (hW.block _ (by omega)).trans bC, hR0.below hW (Nat.le_refl _), by omega, by show _ = _; simp [val], hB0.trans (hW.mono (by omega))⟩
  · rintro l r pre ⟨x, y⟩ rest hx W K hK
    obtain ⟨hx1, hy1, hpl⟩ := pairsL_lt ha.l32 hb.l32 hx
    dsimp only [enc2]
    have HK := Lib.hid hK
    clear hK
    gi_wp2
    refine HK.out _ ?_
    rintro W2 ⟨out, bo, h1, h2, h3, h4, h5, h6⟩ hz2 hr2
    have hc1 := h1.cell
    have hf1 := h1.frozen
    have hc2 := h2.cell
    have hf2 := h2.frozen
    obtain ⟨i0, hi, hz0, hz1, hz2⟩ := info_parts info32
    have h3s : ∀ o, (W2.alloc o).ownsRow w.heap.size 93 1 (.slice (some ⟨w.heap.size, 0, none⟩) pre.length n) pre.length (u32s out) := fun o => h3.own.alloc o
    have k1f : ∀ o X, (W2.alloc o).grownBy X (some w.heap.size) → Boxed X (w.heap.size + 1) 22 (.slice (some ⟨w.heap.size, 0, none⟩) pre.length n) := fun o X hg =>
      (h1.alloc o).kept hg (by simp)
    have k2f : ∀ o X, (W2.alloc o).grownBy X (some w.heap.size) → Boxed X (w.heap.size + 2) 97 (.int .u64 ((bo : Nat) : Int)) := fun o X hg =>
      (h2.alloc o).kept hg (by simp)
    have kg : ∀ o X, (W2.alloc o).grownBy X (some w.heap.size) → KeepsOthers W2 X ∧ Below w.heap.size W2 X ∧ ∀ k, k ≠ w.heap.size → k < W2.heap.size → X.heap[k]? = W2.heap[k]? := fun o X hg => by
      refine ⟨(KeepsOthers.alloc _ _).trans (KeepsOthers.of_grownBy hg ?_), ?_, ?_⟩
      · intro j o' e ho
        injection e with e
        subst e
        obtain ⟨cur, hcur⟩ : ∃ cur, (W2.alloc o).heap[w.heap.size]? = some (.cells cur 93 (0, 0)) := by
          rcases (h3s o).2 with ⟨e, _⟩ | ⟨g, cap, cur, e, _, hh, _⟩
          · cases e
          · injection e with e; injection e with e; injection e with e; subst e; exact ⟨cur, hh⟩
        rw [hcur] at ho
        injection ho with ho
        subst ho; rfl
      · exact (((Below.refl _ W2).alloc h6.size o).trans (below_of_only hg (Nat.le_refl _) (by simp; have := h6.size; omega)))
      · intro k n1 hk
        rw [hg.block k (by simp; omega) (by simpa using n1), Below.heap_alloc _ _ _ hk]
    obtain ⟨e1, d1, lo, bo2, hd1, hd2, hd3, hd4, hd5, hd6, hd7⟩ := diff_limb hx1 hy1 h4
    have HD4 := Lib.hid hd4
    have HD7 := Lib.hid hd7
    clear hd4 hd7
    gi_wp2_with (gi_at_builtin; refine wpListIn_append_fits _ rfl (.tmp 25) (.tmp 28) _ rfl w.heap.size 93 i0 1 Tryz.underlying22 hi hz1 w.heap.size pre.length n (u32s out) rfl (h3s _) ⟨W2.heap.size, 0, none⟩ 1 1 [.int .u32 (lo : Int)] rfl rfl (cell_new1 _ _ _ _ rfl) (by simp [Value.oneCell']) (by omega) ?_; intro w1 hown1 hg1; have k1 := k1f _ _ hg1; have k2 := k2f _ _ hg1; have k3 := Lib.hid (kg _ _ hg1); have hc3 := k1.cell; have hf3 := k1.frozen; have hc4 := k2.cell; have hf4 := k2.frozen)
    rw [HD4.out]
    obtain ⟨g1, g2, g3⟩ := k3.out
    refine ⟨(g1.trans (KeepsOthers.setCell _ _ _)).trans (KeepsOthers.setCell _ _ _), ⟨by simp [World.setCell]; exact g1.size, ?_⟩, out ++ [lo], bo2, ?_, ?_, ?_, hd6, ?_, ?_⟩
    · intro k hk
      have hne : k ≠ w.heap.size ∧ k ≠ w.heap.size + 1 ∧ k ≠ w.heap.size + 2 ∧ k < W2.heap.size := by
        rcases hk with (h | h | h | h) | h
        · omega
        · omega
        · have := hS k h; omega
        · have := hS' k h; omega
        · have := hr2 k h; omega
      rw [Below.heap_setCell _ _ _ _ (show k ≠ w.heap.size + 2 from hne.2.2.1), Below.heap_setCell _ _ _ _ (show k ≠ w.heap.size + 1 from hne.2.1)]
      exact g3 k hne.1 hne.2.2.2
    · rw [List.length_append]
      exact (k1.set _).kept (grownBy_setCell' _ _ _) (by simp)
    · exact ((k2.kept (grownBy_setCell' _ _ _) (by simp)).set _)
    · rw [List.length_append]
      exact ((Res.of_append h3.len h3.l32 hd5 hown1).grown (grownBy_setCell' _ (w.heap.size + 1) _) (fun g e he => by injection e with e; injection e with e; injection he with he; omega)).grown (grownBy_setCell' _ (w.heap.size + 2) _) (fun g e he => by injection e with e; injection e with e; injection he with he; omega)
    · show _ = _
      have e1 : val ((pre ++ [(x, y)]).map Prod.fst) = val (pre.map Prod.fst) + bp pre.length * x := by rw [List.map_append, List.map_cons, List.map_nil, val_snoc, List.length_map]
      have e2 : val ((pre ++ [(x, y)]).map Prod.snd) = val (pre.map Prod.snd) + bp pre.length * y := by rw [List.map_append, List.map_cons, List.map_nil, val_snoc, List.length_map]
      rw [e1, e2, List.length_append]
      exact diff_step h3.len h5.out HD7.out
    · exact ((h6.trans g2).setCell (p := ⟨w.heap.size + 1, 0, none⟩) (by simp) _).setCell (p := ⟨w.heap.size + 2, 0, none⟩) (by simp) _
  · intro D r W ⟨out, bo, h1, h2, h3, h4, h5, h6⟩ hD hK
    have hpl : (pairsL xs ys n).length = n := by simp [pairsL]
    rw [hpl] at h1 h3 h5
    have hv : Hid (val out + val ys = val xs) := by
      have hv := h5.out
      rw [pairsL_fst, pairsL_snd, val_range_nth (by rw [hb.len]; omega), val_range_nth (by rw [ha.len]; omega)] at hv
      have h7 := val_lt h3.l32
      rw [h3.len] at h7
      have h8 := HLE.out
      rcases Nat.eq_zero_or_pos bo with e | e
      · rw [e, Nat.mul_zero, Nat.add_zero] at hv; exact hv
      · have e1 : bo = 1 := by omega
        rw [e1, Nat.mul_one] at hv
        omega
    clear hpl h5
    have hc1 := h1.cell
    have hc2 := h2.cell
    have h3l := Lib.hid h3.len
    gi_wp2_with (refine ⟨trivial, rfl, ?_⟩; gi_at_call 114; refine (callsIn_wide.2 (trim_c _ h3.rd (by omega) (by omega))).mono ?_; rintro e w' ⟨rfl, rfl⟩)
    refine ⟨by simp, .inl ⟨_, _, rfl, run_takeDeferred hK, ?_⟩⟩
    refine ⟨_, results_tmp rfl _ _ _, _, _, _, trimmed out, rfl, ?_, trimmed_can h3.l32, ?_, h6.trans (below_of_only (only_putObj _ _ _) (by omega) h6.size)⟩
    · have ht := h3.take (tl_le out n)
      unfold trimmed
      rw [h3.len]
      exact ht.grown (only_putObj _ _ _) (fun g e he => by injection e with e; injection e with e; injection he with he; omega)
    · rw [trimmed_val]
      exact hv.out
end Go.Proofs.YtklpfgjnlheikaaGreatDoor

namespace Go.Proofs.YtklpfgjnlheikaaGreatDoor
open Go.RowKit

set_option maxRecDepth 100000 in
theorem Sub_c {S S' : Nat → Prop} {n m c d : Nat} {A B : Option Addr} {xs ys : List Nat} (w : World) (ha : Rd w S A n xs) (hb : Rd w S' B m ys) (hS : ∀ b, S b → b < w.heap.size) (hS' : ∀ b, S' b → b < w.heap.size) (hn : n ≤ 9223372036854775807) (hm : m ≤ 9223372036854775807) :
    Calls Tryz.prog 102 #[.slice A n c, .slice B m d] w fun e w' => ∃ A' n' c', e = .returned (.tuple #[.slice A' n' c', .int .i64 (subE xs ys : Int)]) ∧ Res w' w.heap.size A' n' c' (subZ xs ys) ∧ Below w.heap.size w w' := by
  have h1 := checkBoth_c (c := c) (d := d) w ha hb hn hm
  have e1 : (if chk xs = 0 then chk ys else chk xs) = chk2 xs ys := rfl
  rw [e1] at h1
  by_cases h0 : chk2 xs ys = 0
  · obtain ⟨⟨hcx, hlx⟩, hcy, hly⟩ := can_of_chk2 ha.l32 hb.l32 h0
    have HE : Hid (subE xs ys = if val xs < val ys then 4 else 0) := if_pos h0
    have h2 := compare_c (c := c) (d := d) w ha hb hn hm
    rw [cmp_val hcx hcy] at h2
    rw [h0] at h1
    have H1 := Lib.hid h1
    have hn2 : n ≤ 256 := by rw [← ha.len]; exact hlx
    have hmn : val ys ≤ val xs → m ≤ n := fun h => by
      rw [← ha.len, ← hb.len]
      rcases Nat.lt_or_ge xs.length ys.length with h3 | h3
      · have := Can.lt_of_length hcx.1 hcy h3; omega
      · exact h3
    clear h1 h0 e1
    by_cases hlt : val xs < val ys
    · rw [if_pos hlt] at h2
      have hE : Hid (subE xs ys = 4) := by show _ = _; rw [HE.out, if_pos hlt]
      have H2 := Lib.hid h2
      clear h2 hlt hmn
      go_enter Tryz.func102, Tryz.ntmps102
      go_wp2_with fail
      refine H1.out.mono ?_
      rintro e w' ⟨rfl, rfl⟩
      go_wp2_with fail
      refine H2.out.mono ?_
      rintro e w3 ⟨rfl, q, rfl⟩
      go_wp2
      go_ret2
      have hZ : subZ xs ys = [] := if_neg (by rw [hE.out]; omega)
      rw [hE.out, hZ]
      exact ⟨none, 0, 0, rfl, Res.nil _ _, below_drewN (Below.refl _ _) q⟩
    · rw [if_neg hlt] at h2
      have hge : (0 : Int) ≤ (if val ys < val xs then 1 else 0) := by split <;> omega
      obtain ⟨z, hz⟩ : ∃ z : Int, z = (if val ys < val xs then 1 else 0) := ⟨_, rfl⟩
      rw [← hz] at h2 hge
      have hE : Hid (subE xs ys = 0) := by show _ = _; rw [HE.out, if_neg hlt]
      have hmn2 := hmn (Nat.le_of_not_lt hlt)
      have HL := Lib.hid (Nat.le_of_not_lt hlt)
      have H2 := Lib.hid h2
      clear h2 hlt hmn hz
      go_enter Tryz.func102, Tryz.ntmps102
      go_wp2_with fail
      refine H1.out.mono ?_
      rintro e w' ⟨rfl, rfl⟩
      go_wp2_with fail
      refine H2.out.mono ?_
      rintro e w3 ⟨rfl, q, rfl⟩
      go_wp2_with fail
      refine (difference_c (c := c) (d := d) (w.drewN q) (ha.drewN q) (hb.drewN q) hS hS' (by omega) hmn2 HL.out).mono ?_
      rintro e w4 ⟨A4, n4, c4, zs, rfl, hr4, hc4, hv4, hb4⟩
      have HV4 := Lib.hid hv4
      clear hv4
      go_wp2
      go_ret2
      have hZ : subZ xs ys = zs := by
        have e1 : subZ xs ys = lim (val xs - val ys) := if_pos hE.out
        rw [e1, eq_lim hc4]
        congr 1
        have h1 := HV4.out
        omega
      rw [hE.out, hZ]
      exact ⟨_, _, _, rfl, hr4, (below_drewN (Below.refl _ w) q).trans (hb4.mono (Nat.le_refl _))⟩
  · have e2 : subE xs ys = chk2 xs ys := if_neg h0
    have e3 : subZ xs ys = [] := if_neg (by rw [e2]; exact h0)
    rw [e2, e3]
    have hb : (((chk2 xs ys : Nat) : Int) != 0) = true := by rw [bne_iff_ne]; omega
    have H1 := Lib.hid h1
    clear h1 h0 e2 e3 e1
    go_enter Tryz.func102, Tryz.ntmps102
    go_wp2_with fail
    refine H1.out.mono ?_
    rintro e w' ⟨rfl, rfl⟩
    go_wp2
    go_ret2
    exact ⟨none, 0, 0, rfl, Res.nil _ _, Below.refl _ _⟩

end Go.Proofs.YtklpfgjnlheikaaGreatDoor

namespace Go.Proofs.YtklpfgjnlheikaaGreatDoor
open Go.RowKit


set_option maxRecDepth 100000 in
theorem roughly_c {S : Nat → Prop} {n c : Nat} {A : Option Addr} {xs : List Nat} (neg : Bool) (exp : Int) (w : World) (ha : Rd w S A n xs) (hS : ∀ b, S b → b < w.heap.size) (hc : Can xs) (hn : n ≤ 256) :
    Calls Tryz.prog 103 #[.bool neg, .slice A n c, .int .i64 exp] w fun e w' => ∃ s, e = .returned (rv neg none 0 0 exp s) ∧ IsDec (val xs) s ∧ s.size ≤ 2731 ∧ Below w.heap.size w w' := by
  have hb0 : ∀ o, Below w.heap.size w (w.alloc o) := fun o => (Below.refl _ _).alloc (Nat.le_refl _) _
  unfold rv
  go_enter Tryz.func103, Tryz.ntmps103
  go_wp2_with fail
  refine (Print_ok _ (ha.below (hb0 _) hS) (fun b h => by have := hS b h; simp; omega) hc hn).mono ?_
  rintro e w1 ⟨s, rfl, hs, hb1⟩
  have m1 := held hb1 (by simp) (World.alloc_heap_new w _)
  have hy0 : w1.cell? ⟨w.heap.size, 0, none⟩ = some (.bool false) := cell_of m1 rfl
  have hy1 : w1.cell? ⟨w.heap.size, 1, none⟩ = some (.slice none 0 0) := cell_of m1 rfl
  have hy2 : w1.cell? ⟨w.heap.size, 2, none⟩ = some (.int .i64 0) := cell_of m1 rfl
  have hy3 : w1.cell? ⟨w.heap.size, 3, none⟩ = some (.string ⟨#[]⟩) := cell_of m1 rfl
  have hf0 := frozen_of 0 m1
  have hf1 := frozen_of 1 m1
  have hf2 := frozen_of 2 m1
  have hf3 := frozen_of 3 m1
  have HS := Lib.hid hs
  clear m1 hs
  go_wp2
  refine bodyPost_ret (v := .agg #[.bool neg, .slice none 0 0, .int .i64 exp, .string s]) (by simp [results, Tryz.results103, go_sem, hy0, hy1, hy2, hy3]) rfl ?_
  refine ⟨s, rfl, HS.out, ?_, ?_⟩
  · obtain ⟨m, hm0, hm, hv⟩ := bp_lt_ten (n := n) (v := val xs) hn (by have := val_lt ha.l32; rwa [ha.len] at this)
    have := isDec_size HS.out hm0 hv
    omega
  · exact (((((hb0 _).trans (hb1.mono (by simp))).setCell (p := ⟨w.heap.size, 0, none⟩) (Nat.le_refl _) _).setCell (p := ⟨w.heap.size, 1, none⟩) (Nat.le_refl _) _).setCell (p := ⟨w.heap.size, 2, none⟩) (Nat.le_refl _) _).setCell (p := ⟨w.heap.size, 3, none⟩) (Nat.le_refl _) _


theorem sgV_lt {na nb : Bool} {X Y p : Nat} (h1 : X < 10 ^ p) (h2 : Y < 10 ^ p) : sgV na nb X Y < 10 ^ (p + 1) := by
  rw [Nat.pow_succ, Nat.mul_comm]
  generalize (10 : Nat) ^ p = T at *
  unfold sgV
  split
  · omega
  · split <;> omega
theorem wide_bp3 {v p : Nat} (h : v < 10 ^ (p + 1)) (hp : p = 2300) : v < bp 256 := lt_bp (m := 767) h (by omega) (by omega)
theorem lim_ok {v : Nat} (h : v < bp 256) : Can (lim v) ∧ (lim v).length ≤ 256 := ⟨lim_can v, lim_len h⟩
section
variable {S S' : Nat → Prop} {n m c d X Y : Nat} {A B : Option Addr}
theorem chk2_lim (hX : X < bp 256) (hY : Y < bp 256) : chk2 (lim X) (lim Y) = 0 := chk2_ok (lim_can X) (lim_can Y) (lim_len hX) (lim_len hY)
theorem CompareL_c (w : World) (ha : Rd w S A n (lim X)) (hb : Rd w S' B m (lim Y)) (hX : X < bp 256) (hY : Y < bp 256) :
    Calls Tryz.prog 70 #[.slice A n c, .slice B m d] w fun e w' => e = .returned (.tuple #[.int .i64 (cmpN X Y), .int .i64 0]) ∧ ∃ k, w' = w.drewN k := by
  have h1 := lim_len hX
  have h2 := lim_len hY
  have h3 := ha.len
  have h4 := hb.len
  refine (Compare_c w ha hb (by omega) (by omega)).mono ?_
  rintro e w' ⟨rfl, k, rfl⟩
  rw [chk2_lim hX hY, if_pos rfl, cmp_val (lim_can X) (lim_can Y), lim_val, lim_val]
  exact ⟨rfl, k, rfl⟩
theorem AddL_c (w : World) (ha : Rd w S A n (lim X)) (hb : Rd w S' B m (lim Y)) (hS : ∀ b, S b → b < w.heap.size) (hS' : ∀ b, S' b → b < w.heap.size) (hXY : X + Y < bp 256) :
    Calls Tryz.prog 101 #[.slice A n c, .slice B m d] w fun e w' => ∃ A' n' c', e = .returned (.tuple #[.slice A' n' c', .int .i64 0]) ∧ Res w' w.heap.size A' n' c' (lim (X + Y)) ∧ Below w.heap.size w w' := by
  have h1 := lim_len (v := X) (by omega)
  have h2 := lim_len (v := Y) (by omega)
  have h3 := ha.len
  have h4 := hb.len
  refine (Add_c w ha hb hS hS' (by omega) (by omega)).mono ?_
  rintro e w' ⟨A', n', c', rfl, hr, hb⟩
  rw [lim_val, lim_val] at *
  have e0 : binE (lim X) (lim Y) (X + Y) = 0 := binE_ok (lim_can X) (lim_can Y) h1 h2 hXY
  have e1 : binZ (lim X) (lim Y) (X + Y) = lim (X + Y) := if_pos e0
  rw [e1] at hr
  rw [e0]
  exact ⟨A', n', c', rfl, hr, hb⟩
theorem MulL_c {xs ys : List Nat} (w : World) (ha : Rd w S A n xs) (hb : Rd w S' B m ys) (hS : ∀ b, S b → b < w.heap.size) (hS' : ∀ b, S' b → b < w.heap.size) (hc1 : Can xs) (hc2 : Can ys) (hn : n ≤ 256) (hm : m ≤ 256) (hXY : val xs * val ys < bp 256) :
    Calls Tryz.prog 109 #[.slice A n c, .slice B m d] w fun e w' => ∃ A' n' c', e = .returned (.tuple #[.slice A' n' c', .int .i64 0]) ∧ Res w' w.heap.size A' n' c' (lim (val xs * val ys)) ∧ Below w.heap.size w w' := by
  have h3 := ha.len
  have h4 := hb.len
  refine (Mul_c w ha hb hS hS' (by omega) (by omega)).mono ?_
  rintro e w' ⟨A', n', c', rfl, hr, hb⟩
  have e0 : binE xs ys (val xs * val ys) = 0 := binE_ok hc1 hc2 (by omega) (by omega) hXY
  have e1 : binZ xs ys (val xs * val ys) = lim (val xs * val ys) := if_pos e0
  rw [e1] at hr
  rw [e0]
  exact ⟨A', n', c', rfl, hr, hb⟩
theorem SubL_c (w : World) (ha : Rd w S A n (lim X)) (hb : Rd w S' B m (lim Y)) (hS : ∀ b, S b → b < w.heap.size) (hS' : ∀ b, S' b → b < w.heap.size) (hX : X < bp 256) (hY : Y ≤ X) :
    Calls Tryz.prog 102 #[.slice A n c, .slice B m d] w fun e w' => ∃ A' n' c', e = .returned (.tuple #[.slice A' n' c', .int .i64 0]) ∧ Res w' w.heap.size A' n' c' (lim (X - Y)) ∧ Below w.heap.size w w' := by
  have h1 := lim_len hX
  have h2 := lim_len (v := Y) (by omega)
  have h3 := ha.len
  have h4 := hb.len
  refine (Sub_c w ha hb hS hS' (by omega) (by omega)).mono ?_
  rintro e w' ⟨A', n', c', rfl, hr, hb⟩
  have e0 : subE (lim X) (lim Y) = 0 := by unfold subE; rw [chk2_lim hX (by omega), if_pos rfl, lim_val, lim_val, if_neg (by omega)]
  have e1 : subZ (lim X) (lim Y) = lim (X - Y) := by unfold subZ; rw [if_pos e0, lim_val, lim_val]
  rw [e1] at hr
  rw [e0]
  exact ⟨A', n', c', rfl, hr, hb⟩
end

set_option maxRecDepth 100000 in
set_option maxHeartbeats 2000000 in
theorem dsum_c {S : Nat → Prop} {n m c d : Nat} {A B : Option Addr} {xs ys : List Nat} (na nb : Bool) (e1 e2 lo : Int) (P1 P2 : Nat) (w : World)
    (ha1 : Rd w S A n xs) (ha2 : Rd w S B m ys) (hS : ∀ b, S b → b < w.heap.size) (hc1 : Can xs) (hc2 : Can ys) (hn : n ≤ 256) (hm : m ≤ 256) (hv1 : val xs < 10 ^ 300) (hv2 : val ys < 10 ^ 300) (hx1 : -1000 ≤ e1 ∧ e1 ≤ 1000) (hx2 : -1000 ≤ e2 ∧ e2 ≤ 1000)
    (hlo : lo = min e1 e2) (hpi1 : e1 - lo = (P1 : Int)) (hpi2 : e2 - lo = (P2 : Int)) :
    Calls Tryz.prog 59 #[dv na A n c e1, dv nb B m d e2] w fun e w' => ∃ s, e = .returned (rv (sgB na nb (val xs * 10 ^ P1) (val ys * 10 ^ P2)) none 0 0 lo s) ∧ IsDec (sgV na nb (val xs * 10 ^ P1) (val ys * 10 ^ P2)) s ∧ s.size ≤ 2731 ∧ Below w.heap.size w w' := by
  obtain ⟨X, hX⟩ : ∃ X, X = val xs * 10 ^ P1 := ⟨_, rfl⟩
  obtain ⟨Y, hY⟩ : ∃ Y, Y = val ys * 10 ^ P2 := ⟨_, rfl⟩
  rw [← hX, ← hY]
  have hXb : X < 10 ^ 2300 := by rw [hX]; exact wide_lt hv1 (by omega)
  have hYb : Y < 10 ^ 2300 := by rw [hY]; exact wide_lt hv2 (by omega)
  have HXb := Lib.hid hXb
  have HYb := Lib.hid hYb
  have HX := Lib.hid hX
  have HY := Lib.hid hY
  have HV1 := Lib.hid hv1
  have HV2 := Lib.hid hv2
  have HLO := Lib.hid hlo
  have HP1 := Lib.hid hpi1
  have HP2 := Lib.hid hpi2
  have hloa : -1000 ≤ lo ∧ lo ≤ 1000 := by omega
  clear hX hY hXb hYb hv1 hv2 hlo hpi1 hpi2
  unfold dv rv
  have hb0 : ∀ o1 o2 o3 o4, Below w.heap.size w ((((w.alloc o1).alloc o2).alloc o3).alloc o4) := fun o1 o2 o3 o4 => ((((Below.refl _ w).alloc (Nat.le_refl _) o1).alloc (by simp) o2).alloc (by simp; omega) o3).alloc (by simp; omega) o4
  go_enter Tryz.func59, Tryz.ntmps59
  go_wp2_with fail
  obtain ⟨m0, m1, m2, m3⟩ := four_new w (.cells #[.bool na, .slice A n c, .int .i64 e1] 24) (.cells #[.bool nb, .slice B m d, .int .i64 e2] 24) (.cells #[.bool false, .slice none 0 0, .int .i64 0, .string ⟨#[]⟩] 83) (.cells #[.bool na, .slice A n c, .int .i64 e1, .bool nb, .slice B m d, .int .i64 e2] 24)
  have hW := hb0 (.cells #[.bool na, .slice A n c, .int .i64 e1] 24) (.cells #[.bool nb, .slice B m d, .int .i64 e2] 24) (.cells #[.bool false, .slice none 0 0, .int .i64 0, .string ⟨#[]⟩] 83) (.cells #[.bool na, .slice A n c, .int .i64 e1, .bool nb, .slice B m d, .int .i64 e2] 24)
  have hsz : ((((w.alloc (.cells #[.bool na, .slice A n c, .int .i64 e1] 24)).alloc (.cells #[.bool nb, .slice B m d, .int .i64 e2] 24)).alloc (.cells #[.bool false, .slice none 0 0, .int .i64 0, .string ⟨#[]⟩] 83)).alloc (.cells #[.bool na, .slice A n c, .int .i64 e1, .bool nb, .slice B m d, .int .i64 e2] 24)).heap.size = w.heap.size + 4 := by simp
  generalize ((((w.alloc (.cells #[.bool na, .slice A n c, .int .i64 e1] 24)).alloc (.cells #[.bool nb, .slice B m d, .int .i64 e2] 24)).alloc (.cells #[.bool false, .slice none 0 0, .int .i64 0, .string ⟨#[]⟩] 83)).alloc (.cells #[.bool na, .slice A n c, .int .i64 e1, .bool nb, .slice B m d, .int .i64 e2] 24)) = W at m0 m1 m2 m3 hW hsz ⊢
  have hSW : ∀ b, S b → b < W.heap.size := fun b h => by have := hS b h; omega
  refine (align_c na nb e1 e2 lo P1 P2 W m3 (ha1.below hW hS) (ha2.below hW hS) hSW hc1 hc2 hn hm HV1.out HV2.out hx1 hx2 HLO.out HP1.out HP2.out).mono ?_
  rintro e w1 ⟨g, cg, A1, k1, c1, A2, k2, c2, rfl, hg0, hg1, hgl, hgs, r1, r2, hb1⟩
  rw [← HX.out] at r1
  rw [← HY.out] at r2
  have hw1 : Below w.heap.size w w1 := hW.trans (hb1.mono (by omega))
  have m0 := held hb1 (by omega) m0
  have m1 := held hb1 (by omega) m1
  have m2 := held hb1 (by omega) m2
  have z0 : w1.cell? ⟨w.heap.size, 0, none⟩ = some (.bool na) := cell_of m0 rfl
  have z1 : w1.cell? ⟨w.heap.size + 1, 0, none⟩ = some (.bool nb) := cell_of m1 rfl
  clear m3 hb0
  have hXB : X < bp 256 := wide_bp HXb.out
  have hYB : Y < bp 256 := wide_bp HYb.out
  have HXB := Lib.hid hXB
  have HYB := Lib.hid hYB
  clear hXB hYB
  -- what stands behind the size: roughly, and the result's cell
  have hend : ∀ (neg : Bool) (w3 : World) (A' : Option Addr) (k' c' v : Nat), v = sgV na nb X Y → neg = sgB na nb X Y → Below w.heap.size w w3 → w3.heap[w.heap.size + 1 + 1]? = some (.cells #[.bool false, .slice none 0 0, .int .i64 0, .string ⟨#[]⟩] 83) →
      Res w3 w.heap.size A' k' c' (lim v) → ∀ K, (∀ s w4, IsDec v s → s.size ≤ 2731 → Below w.heap.size w w4 → w4.heap[w.heap.size + 1 + 1]? = some (.cells #[.bool false, .slice none 0 0, .int .i64 0, .string ⟨#[]⟩] 83) → K (.returned (rv neg none 0 0 lo s)) w4) →
      Calls Tryz.prog 103 #[.bool neg, .slice A' k' c', .int .i64 lo] w3 K := by
    intro neg w3 A' k' c' v hv hn hb hm hr K hK
    have hvb : v < bp 256 := by rw [hv]; exact wide_bp3 (sgV_lt HXb.out HYb.out) rfl
    have hl := hr.len
    have h2 := lim_len hvb
    refine (roughly_c (c := c') neg lo w3 hr.rd (fun b h => h.2) (lim_can v) (by omega)).mono ?_
    rintro e w4 ⟨s, rfl, hs, hs2, hb4⟩
    rw [lim_val] at hs
    exact hK s w4 hs hs2 (hb.trans (hb4.mono hb.size)) (held hb4 (Array.getElem?_eq_some_iff.1 hm).1 hm)
  have HEND := Lib.hid hend
  clear hend
  go_wp2
  go_quiet (fail)
  go_wp2_with fail
  refine (CompareL_c _ (r1.rd.drewN _) (r2.rd.drewN _) HXB.out HYB.out).mono ?_
  rintro e w2 ⟨rfl, q, rfl⟩
  by_cases hnn : na = nb
  · have hbb : (na == nb) = true := by rw [beq_iff_eq]; exact hnn
    have eB : Hid (na = sgB na nb X Y) := by show _ = _; unfold sgB; rw [if_pos hnn]
    have eV : Hid (X + Y = sgV na nb X Y) := by show _ = _; unfold sgV; rw [if_pos hnn]
    clear hnn
    go_wp2_with fail
    refine (AddL_c _ (r1.rd.drewN _) (r2.rd.drewN _) (fun b h => h.2) (fun b h => h.2) (by rw [eV.out]; exact wide_bp3 (sgV_lt HXb.out HYb.out) rfl)).mono ?_
    rintro e w3 ⟨A3, n3, c3, rfl, hr3, hb3⟩
    have m5 : w3.heap[w.heap.size + 1 + 1]? = some (.cells #[.bool false, .slice none 0 0, .int .i64 0, .string ⟨#[]⟩] 83) := held hb3 (by simp; have := hw1.size; omega) m2
    have hw3 : Below w.heap.size w w3 := (below_drewN hw1 _).trans (hb3.mono hw1.size)
    go_wp2_with fail
    refine HEND.out _ w3 _ _ _ _ eV.out eB.out hw3 m5 (hr3.more (by simp; exact hw1.size)) _ ?_
    intro s w4 hs hs2 hw4 m6
    dsimp only [rv]
    have hy0 : w4.cell? ⟨w.heap.size + 1 + 1, 0, none⟩ = some (.bool false) := cell_of m6 rfl
    have hy1 : w4.cell? ⟨w.heap.size + 1 + 1, 1, none⟩ = some (.slice none 0 0) := cell_of m6 rfl
    have hy2 : w4.cell? ⟨w.heap.size + 1 + 1, 2, none⟩ = some (.int .i64 0) := cell_of m6 rfl
    have hy3 : w4.cell? ⟨w.heap.size + 1 + 1, 3, none⟩ = some (.string ⟨#[]⟩) := cell_of m6 rfl
    have hf0 := frozen_of 0 m6
    have hf1 := frozen_of 1 m6
    have hf2 := frozen_of 2 m6
    have hf3 := frozen_of 3 m6
    have HS := Lib.hid hs
    clear hs m6 m5
    go_wp2
    refine bodyPost_ret (v := .agg #[.bool na, .slice none 0 0, .int .i64 lo, .string s]) (by simp [results, Tryz.results59, go_sem, hy0, hy1, hy2, hy3]) rfl ?_
    rw [← eB.out]
    exact ⟨s, rfl, by rw [← eV.out]; exact HS.out, hs2, (((hw4.setCell (p := ⟨w.heap.size + 1 + 1, 0, none⟩) (by simp; omega) _).setCell (p := ⟨w.heap.size + 1 + 1, 1, none⟩) (by simp; omega) _).setCell (p := ⟨w.heap.size + 1 + 1, 2, none⟩) (by simp; omega) _).setCell (p := ⟨w.heap.size + 1 + 1, 3, none⟩) (by simp; omega) _⟩
  · have hbb : (na == nb) = false := by rw [beq_eq_false_iff_ne]; exact hnn
    by_cases hle : Y ≤ X
    · have eB : Hid (na = sgB na nb X Y) := by show _ = _; unfold sgB; rw [if_neg hnn, if_pos hle]
      have eV : Hid (X - Y = sgV na nb X Y) := by show _ = _; unfold sgV; rw [if_neg hnn, if_pos hle]
      have hcm : 0 ≤ cmpN X Y := by unfold cmpN; rw [if_neg (by omega)]; split <;> omega
      have HLE := Lib.hid hle
      generalize cmpN X Y = z at hcm ⊢
      clear hnn hle
      go_wp2_with fail
      refine (SubL_c _ (r1.rd.drewN _) (r2.rd.drewN _) (fun b h => h.2) (fun b h => h.2) HXB.out HLE.out).mono ?_
      rintro e w3 ⟨A3, n3, c3, rfl, hr3, hb3⟩
      have m5 : w3.heap[w.heap.size + 1 + 1]? = some (.cells #[.bool false, .slice none 0 0, .int .i64 0, .string ⟨#[]⟩] 83) := held hb3 (by simp; have := hw1.size; omega) m2
      have hw3 : Below w.heap.size w w3 := (below_drewN hw1 _).trans (hb3.mono hw1.size)
      go_wp2_with fail
      refine HEND.out _ w3 _ _ _ _ eV.out eB.out hw3 m5 (hr3.more (by simp; exact hw1.size)) _ ?_
      intro s w4 hs hs2 hw4 m6
      dsimp only [rv]
      have hy0 : w4.cell? ⟨w.heap.size + 1 + 1, 0, none⟩ = some (.bool false) := cell_of m6 rfl
      have hy1 : w4.cell? ⟨w.heap.size + 1 + 1, 1, none⟩ = some (.slice none 0 0) := cell_of m6 rfl
      have hy2 : w4.cell? ⟨w.heap.size + 1 + 1, 2, none⟩ = some (.int .i64 0) := cell_of m6 rfl
      have hy3 : w4.cell? ⟨w.heap.size + 1 + 1, 3, none⟩ = some (.string ⟨#[]⟩) := cell_of m6 rfl
      have hf0 := frozen_of 0 m6
      have hf1 := frozen_of 1 m6
      have hf2 := frozen_of 2 m6
      have hf3 := frozen_of 3 m6
      have HS := Lib.hid hs
      clear hs m6 m5
      go_wp2
      refine bodyPost_ret (v := .agg #[.bool na, .slice none 0 0, .int .i64 lo, .string s]) (by simp [results, Tryz.results59, go_sem, hy0, hy1, hy2, hy3]) rfl ?_
      rw [← eB.out]
      exact ⟨s, rfl, by rw [← eV.out]; exact HS.out, hs2, (((hw4.setCell (p := ⟨w.heap.size + 1 + 1, 0, none⟩) (by simp; omega) _).setCell (p := ⟨w.heap.size + 1 + 1, 1, none⟩) (by simp; omega) _).setCell (p := ⟨w.heap.size + 1 + 1, 2, none⟩) (by simp; omega) _).setCell (p := ⟨w.heap.size + 1 + 1, 3, none⟩) (by simp; omega) _⟩
    · have eB : Hid (nb = sgB na nb X Y) := by show _ = _; unfold sgB; rw [if_neg hnn, if_neg hle]
      have eV : Hid (Y - X = sgV na nb X Y) := by show _ = _; unfold sgV; rw [if_neg hnn, if_neg hle]
      have hcm : cmpN X Y < 0 := by unfold cmpN; rw [if_pos (by omega)]; omega
      have HLE : Hid (X ≤ Y) := by show _ ≤ _; omega
      generalize cmpN X Y = z at hcm ⊢
      clear hnn hle
      go_wp2_with fail
      refine (SubL_c _ (r2.rd.drewN _) (r1.rd.drewN _) (fun b h => h.2) (fun b h => h.2) HYB.out HLE.out).mono ?_
      rintro e w3 ⟨A3, n3, c3, rfl, hr3, hb3⟩
      have m5 : w3.heap[w.heap.size + 1 + 1]? = some (.cells #[.bool false, .slice none 0 0, .int .i64 0, .string ⟨#[]⟩] 83) := held hb3 (by simp; have := hw1.size; omega) m2
      have hw3 : Below w.heap.size w w3 := (below_drewN hw1 _).trans (hb3.mono hw1.size)
      go_wp2_with fail
      refine HEND.out _ w3 _ _ _ _ eV.out eB.out hw3 m5 (hr3.more (by simp; exact hw1.size)) _ ?_
      intro s w4 hs hs2 hw4 m6
      dsimp only [rv]
      have hy0 : w4.cell? ⟨w.heap.size + 1 + 1, 0, none⟩ = some (.bool false) := cell_of m6 rfl
      have hy1 : w4.cell? ⟨w.heap.size + 1 + 1, 1, none⟩ = some (.slice none 0 0) := cell_of m6 rfl
      have hy2 : w4.cell? ⟨w.heap.size + 1 + 1, 2, none⟩ = some (.int .i64 0) := cell_of m6 rfl
      have hy3 : w4.cell? ⟨w.heap.size + 1 + 1, 3, none⟩ = some (.string ⟨#[]⟩) := cell_of m6 rfl
      have hf0 := frozen_of 0 m6
      have hf1 := frozen_of 1 m6
      have hf2 := frozen_of 2 m6
      have hf3 := frozen_of 3 m6
      have HS := Lib.hid hs
      clear hs m6 m5
      go_wp2
      refine bodyPost_ret (v := .agg #[.bool nb, .slice none 0 0, .int .i64 lo, .string s]) (by simp [results, Tryz.results59, go_sem, hy0, hy1, hy2, hy3]) rfl ?_
      rw [← eB.out]
      exact ⟨s, rfl, by rw [← eV.out]; exact HS.out, hs2, (((hw4.setCell (p := ⟨w.heap.size + 1 + 1, 0, none⟩) (by simp; omega) _).setCell (p := ⟨w.heap.size + 1 + 1, 1, none⟩) (by simp; omega) _).setCell (p := ⟨w.heap.size + 1 + 1, 2, none⟩) (by simp; omega) _).setCell (p := ⟨w.heap.size + 1 + 1, 3, none⟩) (by simp; omega) _⟩
end Go.Proofs.YtklpfgjnlheikaaGreatDoor
