/-
  'bolterlaw02.DecTexts' returns true for every input, and each argument reads afterwards as it read before: any text's decimal, any decimal's text, and any coefficient and exponent settled, are as the document's own answer says. The listed tables of Go's library start as the program's text lays them (the card ties them).
-/
import Derived.Test.YtjhaoncganoaaaaGreatDoorDarg
import Derived.Test.YtjhaoncganoaaaaGreatDoorDtextw
import Derived.SizedLaws
import Derived.Test.YtjhaoncganoaaaaGreatDoorCards
import Derived.Test.YtjhaoncganoaaaaGreatDoorTie
import Derived.ChangeMaps5
import Derived.Handed
import Derived.Lay
import Derived.SevenTiedAt
set_option linter.unusedVariables false
set_option linter.unusedSimpArgs false
namespace Go.Proofs.YtjhaoncganoaaaaGreatDoor
open Go.ChangeShapes Go.WideShapes Go.ChangeAt Go.RowKit

theorem trodAll_five {H : Type} {enc : TypeId × Value → H} {P : Program} {w : World} {base : Nat} {spare : Nat → Bool} {held : Bool} {t ta tb tc td : TypeId} {args : Array Value} {ds : List (DataW H)} {ps : List MemPlace} (h : DataW.TrodAll enc P w base spare held [t, ta, tb, tc, td] args.toList ds ps) :
    ∃ v va vb vc vd d da db dc dd p pa pb pc pd, args = #[v, va, vb, vc, vd] ∧ ds = [d, da, db, dc, dd] ∧ ps = p ++ pa ++ pb ++ pc ++ pd ∧ DataW.Trod enc P w base spare held t v d p ∧ DataW.Trod enc P w base spare held ta va da pa ∧ DataW.Trod enc P w base spare held tb vb db pb ∧ DataW.Trod enc P w base spare held tc vc dc pc ∧ DataW.Trod enc P w base spare held td vd dd pd := by
  obtain ⟨v, vs, d, ds1, p, q, hargs, rfl, rfl, hd, hrest⟩ := trodAll_cons h
  obtain ⟨va, vs1, da, ds2, pa, q1, rfl, rfl, rfl, hda, hrest1⟩ := trodAll_cons hrest
  obtain ⟨vb, vs2, db, ds3, pb, q2, rfl, rfl, rfl, hdb, hrest2⟩ := trodAll_cons hrest1
  obtain ⟨vc, vs3, dc, ds4, pc, q3, rfl, rfl, rfl, hdc, hrest3⟩ := trodAll_cons hrest2
  obtain ⟨vd, vs4, dd, ds5, pd, q4, rfl, rfl, rfl, hdd, hrest4⟩ := trodAll_cons hrest3
  obtain ⟨rfl, rfl, rfl⟩ := trodAll_nil hrest4
  exact ⟨v, va, vb, vc, vd, d, da, db, dc, dd, p, pa, pb, pc, pd, by cases args; simp_all, rfl, by simp, hd, hda, hdb, hdc, hdd⟩
theorem trodAll_mk5 {H : Type} {enc : TypeId × Value → H} {P : Program} {w : World} {base : Nat} {spare : Nat → Bool} {held : Bool} {t ta tb tc td : TypeId} {v va vb vc vd : Value} {d da db dc dd : DataW H} {p pa pb pc pd : List MemPlace} (h : DataW.Trod enc P w base spare held t v d p) (ha : DataW.Trod enc P w base spare held ta va da pa)
    (hb : DataW.Trod enc P w base spare held tb vb db pb) (hc : DataW.Trod enc P w base spare held tc vc dc pc) (hd : DataW.Trod enc P w base spare held td vd dd pd) : DataW.TrodAll enc P w base spare held [t, ta, tb, tc, td] [v, va, vb, vc, vd] [d, da, db, dc, dd] (p ++ (pa ++ (pb ++ (pc ++ pd)))) := ⟨p, pa ++ (pb ++ (pc ++ pd)), h, trodAll_mk4 ha hb hc hd, rfl⟩

theorem size_le {s : ByteArray} (h : s.data.toList.length ≤ 140737488351232) : s.size ≤ 140737488355328 := by
  have e : s.size = s.data.toList.length := by rw [Array.length_toList]; rfl
  omega

set_option maxRecDepth 100000 in
theorem decTexts_lifted (os : Os) (started : os.Started) (H : Type) (enc : TypeId × Value → H) :
    ReturnsInHanded {} Tryz.checked os 3 .any (fun w args => (Rows.decTextsSpec.pre enc Tryz.prog Tryz.f3 [] false w args ∧ laidMetH Tryz.prog Rows.decTextsRow.laid w) ∧ sizedMet enc Tryz.prog Tryz.f3 (OpenSpec.ofChange Rows.decTextsSpec) false w args)
      (Rows.decTextsSpec.post enc Tryz.prog Tryz.f3 false true false false) := by
  refine returnsInHanded_of_change_and (C := Tryz.checked) (X := fun w _ => laidMetH Tryz.prog Rows.decTextsRow.laid w) (fun _ _ _ hh h => h.of_heap hh) own started (by kernel_rfl) Tryz.func3
    (ChangeSpec.witness_shaped (enc := enc) (C := Tryz.checked) (os := os) (X := fun w _ => laidMetH Tryz.prog Rows.decTextsRow.laid w) false (World.laidAll Tryz.prog os Rows.decTextsRow.laid) #[.string ⟨#[]⟩, .agg #[.bool false, .slice none 0 0, .int .i64 0], .bool false, .slice none 0 0, .int .i64 0] 8 (World.laidAll_os _ _ _)
      (World.shaped_of_ZipB (by kernel_rfl) (by kernel_rfl)) (by kernel_rfl) (by kernel_rfl) (by kernel_rfl)
      (by rw [MakeChecks.laidMetH_plain _ _ _ (by kernel_rfl)]; exact laidMet_laidAll _ (by kernel_rfl) (by kernel_rfl))) ?_
  intro W base args ds gs before hval0 hW hcnd hsz0 hL _
  have hval : ∀ (j : Nat) t v, Tryz.f3.params[j]? = some t → args[j]? = some v → Value.okWide Tryz.prog W .any base t v := hval0
  have hsz : (DataW.weightsEach Tryz.prog (Tryz.f3.params.toList ++ Rows.decTextsSpec.plain.varTypes Tryz.prog) (ds ++ gs)).all (· ≤ reachBytes) = true := hsz0
  have hW' := hW
  obtain ⟨p, q, hA0, hV, rfl, hfz, hnd⟩ := hW
  have hA : DataW.TrodAll enc Tryz.prog W 0 (fun _ => true) true Tryz.f3.params.toList args.toList ds p := hA0
  rw [Tryz.params3] at hA hval hsz
  obtain ⟨v0, v1, v2, v3, v4, d0, d1, d2, d3, d4, p0, p1, p2, p3, p4, rfl, rfl, rfl, h0, h1, h2, h3, h4⟩ := trodAll_five hA
  obtain ⟨rfl, rfl⟩ := trodVars_none hV
  obtain ⟨a3, l3, c3, rfl⟩ := okWide_slice Tryz.underlying22 (hval 3 22 v3 rfl rfl)
  have h0k := h0
  have h1k := h1
  have h2k := h2
  have h3k := h3
  have h4k := h4
  obtain ⟨s0, rfl, rfl, rfl, hs0⟩ := Go.ChangeMaps.open_string Tryz.underlying9 (hval 0 9 v0 rfl rfl) h0
  have hz0 : s0.data.toList.length ≤ 140737488351232 := sized_string hsz (j := 0) rfl rfl
  obtain ⟨g1, a1, l1, c1, e1, xs1, rfl, rx1, hx1⟩ := viewDec (hval 1 24 v1 rfl rfl) h1
  obtain ⟨b2, rfl, rfl, rfl⟩ := open_bool Tryz.underlying4 (hval 2 4 v2 rfl rfl) h2
  obtain ⟨f3, hf3⟩ := h3
  obtain ⟨x4, rfl, rfl, rfl, hx4⟩ := open_int (k := .i64) Tryz.underlying3 (hval 4 3 v4 rfl rfl) h4
  clear hA0 hval0
  simp only [List.append_nil] at hW'
  have hlt : ∀ x ∈ p1 ++ p3, x.block < W.heap.size := fun x hx => hW'.lt x (by simpa using hx)
  obtain ⟨xs3, rx3, hx3, hv3⟩ := view32 hf3
  have hi4 : -9223372036854775808 ≤ x4 ∧ x4 ≤ 9223372036854775807 := by
    have := hx4
    simp [Lit.wf, IntKind.min, IntKind.max, IntKind.signed, IntKind.bits] at this
    omega
  refine (DecTexts_c (c := c1) (d := c3) s0 g1 e1 b2 x4 W (tab10_of hL (by kernel_rfl) (.tail _ (.tail _ (.head _)))) rx1 (fun _ h => h) hx1 rx3 (fun _ h => h) hx3 (size_le hz0)).mono fun e W' ⟨he, hb⟩ => ?_
  subst he
  exact ⟨_, rfl, _, _, _, [], _, [], hW', trodAll_mk1 (shut_bool Tryz.underlying4 _),
    trodAll_mk5 (Below.trod laidOut (by kernel_rfl) (of_decide_eq_true (by kernel_rfl)) h0k hb (fun x hx => by cases hx)) (Below.trod laidOut (by kernel_rfl) (of_decide_eq_true (by kernel_rfl)) h1k hb (fun x hx => hlt x (by simp [hx]))) (Below.trod laidOut (by kernel_rfl) (of_decide_eq_true (by kernel_rfl)) h2k hb (fun x hx => by cases hx)) (Below.trod laidOut (by kernel_rfl) (of_decide_eq_true (by kernel_rfl)) h3k hb (fun x hx => hlt x (by simp [hx]))) (Below.trod laidOut (by kernel_rfl) (of_decide_eq_true (by kernel_rfl)) h4k hb (fun x hx => by cases hx)),
    rfl, hb.frame _, fun h => by cases h⟩

/-- The row. -/
theorem decTexts_row : Rows.DecTextsSaid :=
  OpenClaim.holds_of_wide 3 Tryz.f3 rfl rfl rfl rfl rfl rfl rfl ⟨rfl, rfl, rfl, rfl, rfl⟩ rfl rfl rfl rfl rfl (by kernel_rfl) Tryz.func3 (by kernel_rfl)
    (of_decide_eq_true (by kernel_rfl)) (by unfold Func.isWrapper; first | (rw [if_pos (by decide +kernel)]; kernel_rfl) | (rw [if_neg (by decide +kernel)]; exact ⟨rfl, rfl⟩))
    (fun os started H enc _ => decTexts_lifted os started H enc)

/-- The statement: the tied card. -/
theorem decTexts_holds : Rows.DecTextsCardSaid :=
  Claim7.holds_tied_plain_at .later [] [.data, .data, .data, .data, .pinned] true Rows.decTextsCard.stood.harness Rows.decTextsCard.stood.looks
    decTexts_row (fun _ h => by cases h) (by kernel_rfl) (fun _ h => by cases h) decTexts_row_tie rfl ⟨rfl, rfl⟩ (by kernel_rfl) rfl
    (fun f fn hf hfn => by
      obtain rfl : f = 3 := Option.some.inj ((show Tryz.prog.funcNamed "bolter/bolterlaw02.DecTexts" = some 3 by kernel_rfl).symm.trans hf) |>.symm
      obtain rfl : fn = Tryz.f3 := (Option.some.inj (Tryz.func3.symm.trans hfn)).symm
      exact ⟨by kernel_rfl, fun j t ht => by
        rw [Tryz.params3] at ht
        have hm : t ∈ [9, 24, 4, 22, 3] := by simpa using Array.mem_of_getElem? ht
        have hall : ([9, 24, 4, 22, 3].all fun u => !Tryz.prog.wantsStandIn u) = true := by kernel_rfl
        exact (show Tryz.prog.wantsStandIn t = false by simpa using List.all_eq_true.1 hall t hm)⟩)
    (by kernel_rfl)

#print axioms decTexts_holds
end Go.Proofs.YtjhaoncganoaaaaGreatDoor
