/-
  Contract of the scan's items, for each of the two closures that it is told: whatever they keep.
-/
import Derived.Test.YtpjllcengnolkaaGreatDoorPLhd
set_option linter.unusedVariables false
set_option linter.unusedSimpArgs false
namespace Go.Proofs.YtpjllcengnolkaaGreatDoor
open Go.RowKit Go.Lib
variable {B : Nat} {L : List UInt8} {A : Option Addr} {c sb : Nat}

theorem Env.opens {w : World} {p o : Nat} (h : Env B L A c sb w p o) : Env B L A c sb (w.setCell ⟨sb, 2, none⟩ (.int .i64 ((o : Int) + 1))) p (o + 1) := by
  have hB : But (fun k => k = sb) w (w.setCell ⟨sb, 2, none⟩ (.int .i64 ((o : Int) + 1))) := But.setCell (C := fun k => k = sb) (p := ⟨sb, 2, none⟩) (But.refl _ _) (.inl rfl) _
  refine h.to hB (fun k hk e => by have := h.base; omega) ?_ h.here
  have := set_heap (i := 2) (u := .int .i64 ((o : Int) + 1)) h.box
  simpa [scanO] using this
theorem Env.shuts {w : World} {p o : Nat} (h : Env B L A c sb w p (o + 1)) : Env B L A c sb (w.setCell ⟨sb, 2, none⟩ (.int .i64 (o : Int))) p o := by
  have hB : But (fun k => k = sb) w (w.setCell ⟨sb, 2, none⟩ (.int .i64 (o : Int))) := But.setCell (C := fun k => k = sb) (p := ⟨sb, 2, none⟩) (But.refl _ _) (.inl rfl) _
  refine h.to hB (fun k hk e => by have := h.base; omega) ?_ h.here
  have := set_heap (i := 2) (u := .int .i64 (o : Int)) h.box
  simpa [scanO] using this
/-- What a step that keeps what it reads comes to. -/
def PoI (B : Nat) (L : List UInt8) (A : Option Addr) (c sb : Nat) (C : Nat → Prop) (o : Nat) {α : Type} (J : α → World → Prop) (w : World) (r : RR α) (e : Ending) (w' : World) : Prop :=
  match r with
  | .ok a q => e = .returned (.tuple #[]) ∧ Env B L A c sb w' q o ∧ J a w' ∧ But C w w'
  | .bad q x => e = Flt q x ∧ But C w w'
theorem rSkips_ok (p : Nat) : rSkips isWs L p = .ok () (wsE L p) := rfl
theorem wsE_ge (p : Nat) : p ≤ wsE L p := by unfold wsE; omega

set_option maxRecDepth 100000 in
set_option maxHeartbeats 4000000 in
theorem itemsL_c {α : Type} {w : World} {p o : Nat} (ob pb : Nat) (E : Env B L A c sb w p o) (hpl : p < L.length) (ho : o ≤ 100) (ec : UInt8) (item : Nat → Rd1 α) (I : List α → World → Prop) (D : Nat → Prop)
    (hI0 : I [] w) (hI : ∀ acc W W', I acc W → But (fun k => k = sb) W W' → I acc W') (hD : ∀ k, D k → B ≤ k ∧ k ≠ sb) (hup : ∀ nth p a q, p ≤ L.length → item nth L p = .ok a q → p < q)
    (hIt : ∀ W p nth acc, Env B L A c sb W p (o + 1) → I acc W → acc.length + 1 = nth → nth ≤ 70000 → w.heap.size ≤ W.heap.size → Calls Tryz.prog 49 #[.int .i64 (nth : Int), ptr ob, ptr pb] W (PoI B L A c sb (fun k => k = sb ∨ D k) (o + 1) (fun a W' => I (acc ++ [a]) W') W (item nth L p))) :
    Calls Tryz.prog 48 #[ptr sb, .int .u8 (ec.toNat : Int), .func (.func 49) #[] #[ptr ob, ptr pb]] w (PoI B L A c sb (fun k => k = sb ∨ D k) o (fun l W' => I l W') w (rItems ec item L p)) := by
  obtain ⟨R, hR⟩ : ∃ R, rItems ec item L p = R := ⟨_, rfl⟩
  rw [hR]
  have hR1 : rItemsF ec item fuelR 1 L (wsE L (p + 1)) = R := hR
  have HR := Lib.hid hR1
  have HIT := Lib.hid hIt
  have HD := Lib.hid hD
  have HI := Lib.hid hI
  have HUP := Lib.hid hup
  have hfit := E.fits
  have hpw : IntKind.i64.wrap ((p : Int) + 1) = (p : Int) + 1 := IntWalk.i64_in _ (by omega)
  have how : IntKind.i64.wrap ((o : Int) + 1) = (o : Int) + 1 := IntWalk.i64_in _ (by omega)
  obtain ⟨c0, c1, c2⟩ := E.cells
  have f1 := E.frozen 1 (by omega)
  have f2 := E.frozen 2 (by omega)
  have hE0 := (E.inc hpl).opens
  have hb0 := But.setCell (C := fun k => k = sb) (p := ⟨sb, 2, none⟩) ((But.refl (fun k => k = sb) w).inc (.int .i64 ((p : Int) + 1))) (.inl rfl) (.int .i64 ((o : Int) + 1))
  have hI1 := hI [] w _ hI0 hb0
  clear E hR hR1 hIt hD hI hup hI0
  go_enter Tryz.func48, Tryz.ntmps48
  go_wp2_with fail
  clear c0 c1 c2 f1 f2
  generalize ((w.setCell ⟨sb, 1, none⟩ (.int .i64 ((p : Int) + 1))).setCell ⟨sb, 2, none⟩ (.int .i64 ((o : Int) + 1))) = w0 at *
  refine (space_c hE0).mono ?_
  rintro e w1 ⟨⟨v, rfl, rfl⟩, hE1, hb1⟩
  have HE1 := Lib.hid hE1
  have HB1 := Lib.hid (hb0.trans hb1)
  have HI1 := Lib.hid (HI.out _ _ _ hI1 hb1)
  clear hE1 hb1 hE0 hb0 hI1
  go_wp2_with fail
  go_loopw [6] (fun t wr => ∃ (j m q : Nat) (acc : List α), t = .int .i64 ((j : Int) + 1) ∧ Hid (acc.length = j) ∧ Hid ((rItemsF ec item m (j + 1) L q).bind (fun l q' => .ok (acc ++ l) q') = R) ∧ Hid (70000 ≤ m + q) ∧ Hid (j ≤ q) ∧ Hid (Env B L A c sb wr q (o + 1)) ∧ Hid (But (fun k => k = sb ∨ D k) w wr) ∧ Hid (I acc wr)) (fun _ wr => L.length - atOf sb wr)
  case atStart => exact ⟨0, fuelR, wsE L (p + 1), [], rfl, rfl, by
      show _ = _
      rw [← HR.out]
      cases rItemsF ec item fuelR 1 L (wsE L (p + 1)) <;> rfl, by show 70000 ≤ _; unfold fuelR; omega, Nat.zero_le _, HE1.out, HB1.out.mono (fun _ _ h => .inl h), HI1.out⟩
  case round =>
    obtain ⟨j, m, q, acc, rfl, hal, hc, hf, hjq, hE, hB, hIa⟩ := hrel
    have hat := hE.out.at_of
    have hqh := hE.out.here
    obtain ⟨m', rfl⟩ : ∃ m', m = m' + 1 := ⟨m - 1, by have := hf.out; omega⟩
    have hc1 := hc.out
    unfold rItemsF rAt at hc1
    clear hc HR HE1 HB1 HI1
    have hj := hjq.out
    go_wp2_with fail
    refine (peek_c hE.out).mono ?_
    intro e w1 hp
    cases hr : rPeek L q with
    | bad q2 x =>
      rw [hr] at hp hc1
      obtain ⟨rfl, hb⟩ := hp
      go_wp2_with fail
      rw [← (show (RR.bad q2 x : RR (List α)) = R from hc1)]
      exact ⟨rfl, rfl, hB.out.trans hb.no⟩
    | ok x q2 =>
      obtain ⟨rfl, hx, hq⟩ := peek_ok hr
      rw [hr] at hp hc1
      obtain ⟨⟨v, rfl, rfl⟩, hE1, hb⟩ := hp
      have HE1 := Lib.hid hE1
      have HB1 := Lib.hid (hB.out.trans (hb.no (C := fun k => k = sb ∨ D k)))
      have HI1 := Lib.hid (HI.out _ _ _ hIa.out (hb.no (C := fun k => k = sb)))
      clear hE1 hb hE hB hIa hr
      simp only [RR.bind] at hc1
      have hi : ((x.toNat : Int) == (ec.toNat : Int)) = (x == ec) := u8I_eq x ec
      have hqw : IntKind.i64.wrap ((q : Int) + 1) = (q : Int) + 1 := IntWalk.i64_in _ (by omega)
      cases hg : (x == ec)
      · rw [hg] at hi
        have hi2 : ((x.toNat : Int) != (ec.toNat : Int)) = true := by unfold bne; rw [hi]; rfl
        simp only [hg, Bool.false_eq_true, if_false] at hc1
        clear hg
        have hjw : IntKind.i64.wrap ((j : Int) + 1 + 1) = (j : Int) + 1 + 1 := IntWalk.i64_in _ (by omega)
        by_cases hj0 : j = 0
        · subst hj0
          have hn1 : ¬ (1 : Int) < ((0 : Nat) : Int) + 1 := by omega
          rw [if_neg (by omega : ¬ 1 < 0 + 1)] at hc1
          have hc2 : ((item (0 + 1) L q).bind (fun a q1 => ((rSkips isWs L q1).bind fun _ q2 => (rItemsF ec item m' (0 + 1 + 1) L q2).bind fun l q3 => .ok (a :: l) q3))).bind (fun l q' => .ok (acc ++ l) q') = R := by
            rw [← hc1]
            show _ = (RR.bind ((item (0 + 1) L q).bind _) _)
            cases item (0 + 1) L q <;> rfl
          have HC := Lib.hid hc2
          clear hc1 hc2
          go_wp2_with fail
          refine (HIT.out w1 q (0 + 1) acc HE1.out HI1.out (by rw [hal.out]) (by omega) HB1.out.size).mono ?_
          intro e wi hp
          cases hri : item (0 + 1) L q with
          | bad qi y =>
            rw [hri] at hp
            have hc3 := HC.out
            rw [hri] at hc3
            obtain ⟨rfl, hb⟩ := hp
            go_wp2_with fail
            rw [← (show (RR.bad qi y : RR (List α)) = R from hc3)]
            exact ⟨rfl, rfl, HB1.out.trans hb⟩
          | ok a qi =>
            have hqi := HUP.out (0 + 1) q a qi HE1.out.here hri
            rw [hri] at hp
            have hc3 := HC.out
            rw [hri] at hc3
            obtain ⟨rfl, hEi, hIi, hb⟩ := hp
            have HBi := Lib.hid (HB1.out.trans hb)
            have HEi := Lib.hid hEi
            have HIi := Lib.hid hIi
            clear hEi hIi hb hri HC HE1 HB1 HI1
            go_wp2_with fail
            refine (space_c HEi.out).mono ?_
            rintro e wj ⟨⟨v, rfl, rfl⟩, hEj, hbj⟩
            have hws2 := wsE_ge (L := L) qi
            obtain ⟨qj, hqj⟩ : ∃ q3, wsE L qi = q3 := ⟨_, rfl⟩
            have HEj := Lib.hid (show Env B L A c sb wj qj (o + 1) from hqj ▸ hEj)
            have HBj := Lib.hid (HBi.out.trans (hbj.mono (D := fun k => k = sb ∨ D k) (fun _ _ h => .inl h)))
            have HIj := Lib.hid (HI.out _ _ _ HIi.out hbj)
            have hc4 : (rItemsF ec item m' (0 + 1 + 1) L qj).bind (fun l q' => .ok ((acc ++ [a]) ++ l) q') = R := by
              rw [← hc3, ← hqj]
              show _ = RR.bind ((rItemsF ec item m' (0 + 1 + 1) L (wsE L qi)).bind _) _
              cases rItemsF ec item m' (0 + 1 + 1) L (wsE L qi) with
              | ok l q' => show RR.ok _ _ = RR.ok _ _; rw [List.append_assoc]; rfl
              | bad q' x => rfl
            have HC4 := Lib.hid hc4
            clear hEj hbj hc3 hc4
            go_wp2_with fail
            go_roundw
            case rel => exact ⟨0 + 1, m', qj, acc ++ [a], by go_num, by show _ = _; rw [List.length_append, hal.out]; rfl, HC4.out, by have := hf.out; show _ ≤ _; omega, by show _ ≤ _; omega, HEj.out, HBj.out, HIj.out⟩
            case measure => rw [HEj.out.at_of, hat]; have := HEj.out.here; omega
        · have hn1 : (1 : Int) < (j : Int) + 1 := by omega
          rw [if_pos (by omega : 1 < j + 1)] at hc1
          go_wp2_with fail
          refine (one_c 44 w1).mono ?_
          rintro e' v1 ⟨rfl, hv⟩
          have hBv : But (fun _ => False) w1 v1 := by rw [hv]; exact (But.refl _ _).alloc _
          have hcl : v1.cell? ⟨w1.heap.size, 0, none⟩ = some (.int .u8 ((44 : UInt8).toNat : Int)) := by rw [hv]; exact cell_at3 (World.alloc_heap_new w1 _) rfl
          have hEv := HE1.out.stay hBv (fun _ _ h => h) (fun h => h)
          clear hv
          go_wp2_with fail
          refine (needOne_c hEv 44 hcl).mono ?_
          intro e w2 hp
          cases hrn : rNeed (· == 44) L q with
          | bad q2 y =>
            rw [hrn] at hp hc1
            obtain ⟨rfl, hb⟩ := hp
            go_wp2_with fail
            rw [← (show (RR.bad q2 y : RR (List α)) = R from hc1)]
            exact ⟨rfl, rfl, HB1.out.trans ((hBv.no.trans hb).mono (fun _ _ h => .inl h))⟩
          | ok u q2 =>
            have hq2 : q < q2 := by
              unfold rNeed at hrn
              rw [hx] at hrn
              cases h4 : (x == 44) with
              | false => simp only [h4, Bool.false_eq_true, if_false] at hrn; exact absurd hrn (by simp)
              | true => simp only [h4, if_true] at hrn; injection hrn with _ h5; omega
            rw [hrn] at hp hc1
            obtain ⟨⟨v, rfl, rfl⟩, hE2, hb⟩ := hp
            have hbb : But (fun k => k = sb) w1 w2 := hBv.no.trans hb
            have HB2 := Lib.hid (HB1.out.trans (hbb.mono (D := fun k => k = sb ∨ D k) (fun _ _ h => .inl h)))
            have HI2 := Lib.hid (HI.out _ _ _ HI1.out hbb)
            have HE2 := Lib.hid hE2
            clear hE2 hb hbb hBv hcl hEv hrn HE1 HB1 HI1
            go_wp2_with fail
            refine (space_c HE2.out).mono ?_
            rintro e w3 ⟨⟨v, rfl, rfl⟩, hE3, hb3⟩
            have hws := wsE_ge (L := L) q2
            obtain ⟨q3, hq3⟩ : ∃ q3, wsE L q2 = q3 := ⟨_, rfl⟩
            have HE3 := Lib.hid (show Env B L A c sb w3 q3 (o + 1) from hq3 ▸ hE3)
            have HB3 := Lib.hid (HB2.out.trans (hb3.mono (D := fun k => k = sb ∨ D k) (fun _ _ h => .inl h)))
            have HI3 := Lib.hid (HI.out _ _ _ HI2.out hb3)
            have hc2 : ((item (j + 1) L q3).bind (fun a q1 => ((rSkips isWs L q1).bind fun _ q2 => (rItemsF ec item m' (j + 1 + 1) L q2).bind fun l q3 => .ok (a :: l) q3))).bind (fun l q' => .ok (acc ++ l) q') = R := by
              rw [← hc1, ← hq3]
              show _ = (RR.bind ((item (j + 1) L (wsE L q2)).bind _) _)
              cases item (j + 1) L (wsE L q2) <;> rfl
            have HC := Lib.hid hc2
            have hqq3 : q < q3 := by omega
            clear hE3 hb3 HE2 HB2 HI2 hc1 hc2 hws hq3
            go_wp2_with fail
            refine (HIT.out w3 q3 (j + 1) acc HE3.out HI3.out (by rw [hal.out]) (by omega) HB3.out.size).mono ?_
            intro e wi hp
            cases hri : item (j + 1) L q3 with
            | bad qi y =>
              rw [hri] at hp
              have hc3 := HC.out
              rw [hri] at hc3
              obtain ⟨rfl, hb⟩ := hp
              go_wp2_with fail
              rw [← (show (RR.bad qi y : RR (List α)) = R from hc3)]
              exact ⟨rfl, rfl, HB3.out.trans hb⟩
            | ok a qi =>
              have hqi := HUP.out (j + 1) q3 a qi HE3.out.here hri
              rw [hri] at hp
              have hc3 := HC.out
              rw [hri] at hc3
              obtain ⟨rfl, hEi, hIi, hb⟩ := hp
              have HBi := Lib.hid (HB3.out.trans hb)
              have HEi := Lib.hid hEi
              have HIi := Lib.hid hIi
              clear hEi hIi hb hri HC HE3 HB3 HI3
              go_wp2_with fail
              refine (space_c HEi.out).mono ?_
              rintro e wj ⟨⟨v, rfl, rfl⟩, hEj, hbj⟩
              have hws2 := wsE_ge (L := L) qi
              obtain ⟨qj, hqj⟩ : ∃ q3, wsE L qi = q3 := ⟨_, rfl⟩
              have HEj := Lib.hid (show Env B L A c sb wj qj (o + 1) from hqj ▸ hEj)
              have HBj := Lib.hid (HBi.out.trans (hbj.mono (D := fun k => k = sb ∨ D k) (fun _ _ h => .inl h)))
              have HIj := Lib.hid (HI.out _ _ _ HIi.out hbj)
              have hc4 : (rItemsF ec item m' (j + 1 + 1) L qj).bind (fun l q' => .ok ((acc ++ [a]) ++ l) q') = R := by
                rw [← hc3, ← hqj]
                show _ = RR.bind ((rItemsF ec item m' (j + 1 + 1) L (wsE L qi)).bind _) _
                cases rItemsF ec item m' (j + 1 + 1) L (wsE L qi) with
                | ok l q' => show RR.ok _ _ = RR.ok _ _; rw [List.append_assoc]; rfl
                | bad q' x => rfl
              have HC4 := Lib.hid hc4
              clear hEj hbj hc3 hc4
              go_wp2_with fail
              go_roundw
              case rel => exact ⟨j + 1, m', qj, acc ++ [a], by go_num, by show _ = _; rw [List.length_append, hal.out]; rfl, HC4.out, by have := hf.out; show _ ≤ _; omega, by show _ ≤ _; omega, HEj.out, HBj.out, HIj.out⟩
              case measure => rw [HEj.out.at_of, hat]; have := HEj.out.here; omega
      · rw [hg] at hi
        have hi2 : ((x.toNat : Int) != (ec.toNat : Int)) = false := by unfold bne; rw [hi]; rfl
        simp only [hg, if_true] at hc1
        clear hg
        have hR : RR.ok acc (q + 1) = R := by rw [← hc1]; show _ = RR.ok (acc ++ []) _; rw [List.append_nil]
        have HR := Lib.hid hR
        obtain ⟨c0, c1, c2⟩ := HE1.out.cells
        have f1 := HE1.out.frozen 1 (by omega)
        have f2 := HE1.out.frozen 2 (by omega)
        have hE2 := (HE1.out.inc hq).shuts
        have hb2 := But.setCell (C := fun k => k = sb) (p := ⟨sb, 2, none⟩) ((But.refl (fun k => k = sb) w1).inc (.int .i64 ((q : Int) + 1))) (.inl rfl) (.int .i64 (o : Int))
        have hI2 := HI.out _ _ _ HI1.out hb2
        have HE2 := Lib.hid hE2
        have HB2 := Lib.hid hb2
        have HI2 := Lib.hid hI2
        have how2 : IntKind.i64.wrap (((o + 1 : Nat) : Int) - 1) = (o : Int) := by rw [IntWalk.i64_in _ (by omega)]; omega
        clear hc1 hR hE2 hb2 hI2
        go_wp2_with fail
        first | go_end0 | refine bodyPost_ret (results_none rfl _ _ _) rfl ?_
        rw [← HR.out]
        exact ⟨rfl, HE2.out, HI2.out, HB1.out.trans (HB2.out.mono (fun _ _ h => .inl h))⟩

set_option maxRecDepth 100000 in
set_option maxHeartbeats 4000000 in
theorem itemsO_c {α : Type} {w : World} {p o : Nat} (pb lb mb : Nat) (E : Env B L A c sb w p o) (hpl : p < L.length) (ho : o ≤ 100) (ec : UInt8) (item : Nat → Rd1 α) (I : List α → World → Prop) (D : Nat → Prop)
    (hI0 : I [] w) (hI : ∀ acc W W', I acc W → But (fun k => k = sb) W W' → I acc W') (hD : ∀ k, D k → B ≤ k ∧ k ≠ sb) (hup : ∀ nth p a q, p ≤ L.length → item nth L p = .ok a q → p < q)
    (hIt : ∀ W p nth acc, Env B L A c sb W p (o + 1) → I acc W → acc.length + 1 = nth → nth ≤ 70000 → w.heap.size ≤ W.heap.size → Calls Tryz.prog 51 #[.int .i64 (nth : Int), ptr pb, ptr lb, ptr mb] W (PoI B L A c sb (fun k => k = sb ∨ D k) (o + 1) (fun a W' => I (acc ++ [a]) W') W (item nth L p))) :
    Calls Tryz.prog 48 #[ptr sb, .int .u8 (ec.toNat : Int), .func (.func 51) #[] #[ptr pb, ptr lb, ptr mb]] w (PoI B L A c sb (fun k => k = sb ∨ D k) o (fun l W' => I l W') w (rItems ec item L p)) := by
  obtain ⟨R, hR⟩ : ∃ R, rItems ec item L p = R := ⟨_, rfl⟩
  rw [hR]
  have hR1 : rItemsF ec item fuelR 1 L (wsE L (p + 1)) = R := hR
  have HR := Lib.hid hR1
  have HIT := Lib.hid hIt
  have HD := Lib.hid hD
  have HI := Lib.hid hI
  have HUP := Lib.hid hup
  have hfit := E.fits
  have hpw : IntKind.i64.wrap ((p : Int) + 1) = (p : Int) + 1 := IntWalk.i64_in _ (by omega)
  have how : IntKind.i64.wrap ((o : Int) + 1) = (o : Int) + 1 := IntWalk.i64_in _ (by omega)
  obtain ⟨c0, c1, c2⟩ := E.cells
  have f1 := E.frozen 1 (by omega)
  have f2 := E.frozen 2 (by omega)
  have hE0 := (E.inc hpl).opens
  have hb0 := But.setCell (C := fun k => k = sb) (p := ⟨sb, 2, none⟩) ((But.refl (fun k => k = sb) w).inc (.int .i64 ((p : Int) + 1))) (.inl rfl) (.int .i64 ((o : Int) + 1))
  have hI1 := hI [] w _ hI0 hb0
  clear E hR hR1 hIt hD hI hup hI0
  go_enter Tryz.func48, Tryz.ntmps48
  go_wp2_with fail
  clear c0 c1 c2 f1 f2
  generalize ((w.setCell ⟨sb, 1, none⟩ (.int .i64 ((p : Int) + 1))).setCell ⟨sb, 2, none⟩ (.int .i64 ((o : Int) + 1))) = w0 at *
  refine (space_c hE0).mono ?_
  rintro e w1 ⟨⟨v, rfl, rfl⟩, hE1, hb1⟩
  have HE1 := Lib.hid hE1
  have HB1 := Lib.hid (hb0.trans hb1)
  have HI1 := Lib.hid (HI.out _ _ _ hI1 hb1)
  clear hE1 hb1 hE0 hb0 hI1
  go_wp2_with fail
  go_loopw [6] (fun t wr => ∃ (j m q : Nat) (acc : List α), t = .int .i64 ((j : Int) + 1) ∧ Hid (acc.length = j) ∧ Hid ((rItemsF ec item m (j + 1) L q).bind (fun l q' => .ok (acc ++ l) q') = R) ∧ Hid (70000 ≤ m + q) ∧ Hid (j ≤ q) ∧ Hid (Env B L A c sb wr q (o + 1)) ∧ Hid (But (fun k => k = sb ∨ D k) w wr) ∧ Hid (I acc wr)) (fun _ wr => L.length - atOf sb wr)
  case atStart => exact ⟨0, fuelR, wsE L (p + 1), [], rfl, rfl, by
      show _ = _
      rw [← HR.out]
      cases rItemsF ec item fuelR 1 L (wsE L (p + 1)) <;> rfl, by show 70000 ≤ _; unfold fuelR; omega, Nat.zero_le _, HE1.out, HB1.out.mono (fun _ _ h => .inl h), HI1.out⟩
  case round =>
    obtain ⟨j, m, q, acc, rfl, hal, hc, hf, hjq, hE, hB, hIa⟩ := hrel
    have hat := hE.out.at_of
    have hqh := hE.out.here
    obtain ⟨m', rfl⟩ : ∃ m', m = m' + 1 := ⟨m - 1, by have := hf.out; omega⟩
    have hc1 := hc.out
    unfold rItemsF rAt at hc1
    clear hc HR HE1 HB1 HI1
    have hj := hjq.out
    go_wp2_with fail
    refine (peek_c hE.out).mono ?_
    intro e w1 hp
    cases hr : rPeek L q with
    | bad q2 x =>
      rw [hr] at hp hc1
      obtain ⟨rfl, hb⟩ := hp
      go_wp2_with fail
      rw [← (show (RR.bad q2 x : RR (List α)) = R from hc1)]
      exact ⟨rfl, rfl, hB.out.trans hb.no⟩
    | ok x q2 =>
      obtain ⟨rfl, hx, hq⟩ := peek_ok hr
      rw [hr] at hp hc1
      obtain ⟨⟨v, rfl, rfl⟩, hE1, hb⟩ := hp
      have HE1 := Lib.hid hE1
      have HB1 := Lib.hid (hB.out.trans (hb.no (C := fun k => k = sb ∨ D k)))
      have HI1 := Lib.hid (HI.out _ _ _ hIa.out (hb.no (C := fun k => k = sb)))
      clear hE1 hb hE hB hIa hr
      simp only [RR.bind] at hc1
      have hi : ((x.toNat : Int) == (ec.toNat : Int)) = (x == ec) := u8I_eq x ec
      have hqw : IntKind.i64.wrap ((q : Int) + 1) = (q : Int) + 1 := IntWalk.i64_in _ (by omega)
      cases hg : (x == ec)
      · rw [hg] at hi
        have hi2 : ((x.toNat : Int) != (ec.toNat : Int)) = true := by unfold bne; rw [hi]; rfl
        simp only [hg, Bool.false_eq_true, if_false] at hc1
        clear hg
        have hjw : IntKind.i64.wrap ((j : Int) + 1 + 1) = (j : Int) + 1 + 1 := IntWalk.i64_in _ (by omega)
        by_cases hj0 : j = 0
        · subst hj0
          have hn1 : ¬ (1 : Int) < ((0 : Nat) : Int) + 1 := by omega
          rw [if_neg (by omega : ¬ 1 < 0 + 1)] at hc1
          have hc2 : ((item (0 + 1) L q).bind (fun a q1 => ((rSkips isWs L q1).bind fun _ q2 => (rItemsF ec item m' (0 + 1 + 1) L q2).bind fun l q3 => .ok (a :: l) q3))).bind (fun l q' => .ok (acc ++ l) q') = R := by
            rw [← hc1]
            show _ = (RR.bind ((item (0 + 1) L q).bind _) _)
            cases item (0 + 1) L q <;> rfl
          have HC := Lib.hid hc2
          clear hc1 hc2
          go_wp2_with fail
          refine (HIT.out w1 q (0 + 1) acc HE1.out HI1.out (by rw [hal.out]) (by omega) HB1.out.size).mono ?_
          intro e wi hp
          cases hri : item (0 + 1) L q with
          | bad qi y =>
            rw [hri] at hp
            have hc3 := HC.out
            rw [hri] at hc3
            obtain ⟨rfl, hb⟩ := hp
            go_wp2_with fail
            rw [← (show (RR.bad qi y : RR (List α)) = R from hc3)]
            exact ⟨rfl, rfl, HB1.out.trans hb⟩
          | ok a qi =>
            have hqi := HUP.out (0 + 1) q a qi HE1.out.here hri
            rw [hri] at hp
            have hc3 := HC.out
            rw [hri] at hc3
            obtain ⟨rfl, hEi, hIi, hb⟩ := hp
            have HBi := Lib.hid (HB1.out.trans hb)
            have HEi := Lib.hid hEi
            have HIi := Lib.hid hIi
            clear hEi hIi hb hri HC HE1 HB1 HI1
            go_wp2_with fail
            refine (space_c HEi.out).mono ?_
            rintro e wj ⟨⟨v, rfl, rfl⟩, hEj, hbj⟩
            have hws2 := wsE_ge (L := L) qi
            obtain ⟨qj, hqj⟩ : ∃ q3, wsE L qi = q3 := ⟨_, rfl⟩
            have HEj := Lib.hid (show Env B L A c sb wj qj (o + 1) from hqj ▸ hEj)
            have HBj := Lib.hid (HBi.out.trans (hbj.mono (D := fun k => k = sb ∨ D k) (fun _ _ h => .inl h)))
            have HIj := Lib.hid (HI.out _ _ _ HIi.out hbj)
            have hc4 : (rItemsF ec item m' (0 + 1 + 1) L qj).bind (fun l q' => .ok ((acc ++ [a]) ++ l) q') = R := by
              rw [← hc3, ← hqj]
              show _ = RR.bind ((rItemsF ec item m' (0 + 1 + 1) L (wsE L qi)).bind _) _
              cases rItemsF ec item m' (0 + 1 + 1) L (wsE L qi) with
              | ok l q' => show RR.ok _ _ = RR.ok _ _; rw [List.append_assoc]; rfl
              | bad q' x => rfl
            have HC4 := Lib.hid hc4
            clear hEj hbj hc3 hc4
            go_wp2_with fail
            go_roundw
            case rel => exact ⟨0 + 1, m', qj, acc ++ [a], by go_num, by show _ = _; rw [List.length_append, hal.out]; rfl, HC4.out, by have := hf.out; show _ ≤ _; omega, by show _ ≤ _; omega, HEj.out, HBj.out, HIj.out⟩
            case measure => rw [HEj.out.at_of, hat]; have := HEj.out.here; omega
        · have hn1 : (1 : Int) < (j : Int) + 1 := by omega
          rw [if_pos (by omega : 1 < j + 1)] at hc1
          go_wp2_with fail
          refine (one_c 44 w1).mono ?_
          rintro e' v1 ⟨rfl, hv⟩
          have hBv : But (fun _ => False) w1 v1 := by rw [hv]; exact (But.refl _ _).alloc _
          have hcl : v1.cell? ⟨w1.heap.size, 0, none⟩ = some (.int .u8 ((44 : UInt8).toNat : Int)) := by rw [hv]; exact cell_at3 (World.alloc_heap_new w1 _) rfl
          have hEv := HE1.out.stay hBv (fun _ _ h => h) (fun h => h)
          clear hv
          go_wp2_with fail
          refine (needOne_c hEv 44 hcl).mono ?_
          intro e w2 hp
          cases hrn : rNeed (· == 44) L q with
          | bad q2 y =>
            rw [hrn] at hp hc1
            obtain ⟨rfl, hb⟩ := hp
            go_wp2_with fail
            rw [← (show (RR.bad q2 y : RR (List α)) = R from hc1)]
            exact ⟨rfl, rfl, HB1.out.trans ((hBv.no.trans hb).mono (fun _ _ h => .inl h))⟩
          | ok u q2 =>
            have hq2 : q < q2 := by
              unfold rNeed at hrn
              rw [hx] at hrn
              cases h4 : (x == 44) with
              | false => simp only [h4, Bool.false_eq_true, if_false] at hrn; exact absurd hrn (by simp)
              | true => simp only [h4, if_true] at hrn; injection hrn with _ h5; omega
            rw [hrn] at hp hc1
            obtain ⟨⟨v, rfl, rfl⟩, hE2, hb⟩ := hp
            have hbb : But (fun k => k = sb) w1 w2 := hBv.no.trans hb
            have HB2 := Lib.hid (HB1.out.trans (hbb.mono (D := fun k => k = sb ∨ D k) (fun _ _ h => .inl h)))
            have HI2 := Lib.hid (HI.out _ _ _ HI1.out hbb)
            have HE2 := Lib.hid hE2
            clear hE2 hb hbb hBv hcl hEv hrn HE1 HB1 HI1
            go_wp2_with fail
            refine (space_c HE2.out).mono ?_
            rintro e w3 ⟨⟨v, rfl, rfl⟩, hE3, hb3⟩
            have hws := wsE_ge (L := L) q2
            obtain ⟨q3, hq3⟩ : ∃ q3, wsE L q2 = q3 := ⟨_, rfl⟩
            have HE3 := Lib.hid (show Env B L A c sb w3 q3 (o + 1) from hq3 ▸ hE3)
            have HB3 := Lib.hid (HB2.out.trans (hb3.mono (D := fun k => k = sb ∨ D k) (fun _ _ h => .inl h)))
            have HI3 := Lib.hid (HI.out _ _ _ HI2.out hb3)
            have hc2 : ((item (j + 1) L q3).bind (fun a q1 => ((rSkips isWs L q1).bind fun _ q2 => (rItemsF ec item m' (j + 1 + 1) L q2).bind fun l q3 => .ok (a :: l) q3))).bind (fun l q' => .ok (acc ++ l) q') = R := by
              rw [← hc1, ← hq3]
              show _ = (RR.bind ((item (j + 1) L (wsE L q2)).bind _) _)
              cases item (j + 1) L (wsE L q2) <;> rfl
            have HC := Lib.hid hc2
            have hqq3 : q < q3 := by omega
            clear hE3 hb3 HE2 HB2 HI2 hc1 hc2 hws hq3
            go_wp2_with fail
            refine (HIT.out w3 q3 (j + 1) acc HE3.out HI3.out (by rw [hal.out]) (by omega) HB3.out.size).mono ?_
            intro e wi hp
            cases hri : item (j + 1) L q3 with
            | bad qi y =>
              rw [hri] at hp
              have hc3 := HC.out
              rw [hri] at hc3
              obtain ⟨rfl, hb⟩ := hp
              go_wp2_with fail
              rw [← (show (RR.bad qi y : RR (List α)) = R from hc3)]
              exact ⟨rfl, rfl, HB3.out.trans hb⟩
            | ok a qi =>
              have hqi := HUP.out (j + 1) q3 a qi HE3.out.here hri
              rw [hri] at hp
              have hc3 := HC.out
              rw [hri] at hc3
              obtain ⟨rfl, hEi, hIi, hb⟩ := hp
              have HBi := Lib.hid (HB3.out.trans hb)
              have HEi := Lib.hid hEi
              have HIi := Lib.hid hIi
              clear hEi hIi hb hri HC HE3 HB3 HI3
              go_wp2_with fail
              refine (space_c HEi.out).mono ?_
              rintro e wj ⟨⟨v, rfl, rfl⟩, hEj, hbj⟩
              have hws2 := wsE_ge (L := L) qi
              obtain ⟨qj, hqj⟩ : ∃ q3, wsE L qi = q3 := ⟨_, rfl⟩
              have HEj := Lib.hid (show Env B L A c sb wj qj (o + 1) from hqj ▸ hEj)
              have HBj := Lib.hid (HBi.out.trans (hbj.mono (D := fun k => k = sb ∨ D k) (fun _ _ h => .inl h)))
              have HIj := Lib.hid (HI.out _ _ _ HIi.out hbj)
              have hc4 : (rItemsF ec item m' (j + 1 + 1) L qj).bind (fun l q' => .ok ((acc ++ [a]) ++ l) q') = R := by
                rw [← hc3, ← hqj]
                show _ = RR.bind ((rItemsF ec item m' (j + 1 + 1) L (wsE L qi)).bind _) _
                cases rItemsF ec item m' (j + 1 + 1) L (wsE L qi) with
                | ok l q' => show RR.ok _ _ = RR.ok _ _; rw [List.append_assoc]; rfl
                | bad q' x => rfl
              have HC4 := Lib.hid hc4
              clear hEj hbj hc3 hc4
              go_wp2_with fail
              go_roundw
              case rel => exact ⟨j + 1, m', qj, acc ++ [a], by go_num, by show _ = _; rw [List.length_append, hal.out]; rfl, HC4.out, by have := hf.out; show _ ≤ _; omega, by show _ ≤ _; omega, HEj.out, HBj.out, HIj.out⟩
              case measure => rw [HEj.out.at_of, hat]; have := HEj.out.here; omega
      · rw [hg] at hi
        have hi2 : ((x.toNat : Int) != (ec.toNat : Int)) = false := by unfold bne; rw [hi]; rfl
        simp only [hg, if_true] at hc1
        clear hg
        have hR : RR.ok acc (q + 1) = R := by rw [← hc1]; show _ = RR.ok (acc ++ []) _; rw [List.append_nil]
        have HR := Lib.hid hR
        obtain ⟨c0, c1, c2⟩ := HE1.out.cells
        have f1 := HE1.out.frozen 1 (by omega)
        have f2 := HE1.out.frozen 2 (by omega)
        have hE2 := (HE1.out.inc hq).shuts
        have hb2 := But.setCell (C := fun k => k = sb) (p := ⟨sb, 2, none⟩) ((But.refl (fun k => k = sb) w1).inc (.int .i64 ((q : Int) + 1))) (.inl rfl) (.int .i64 (o : Int))
        have hI2 := HI.out _ _ _ HI1.out hb2
        have HE2 := Lib.hid hE2
        have HB2 := Lib.hid hb2
        have HI2 := Lib.hid hI2
        have how2 : IntKind.i64.wrap (((o + 1 : Nat) : Int) - 1) = (o : Int) := by rw [IntWalk.i64_in _ (by omega)]; omega
        clear hc1 hR hE2 hb2 hI2
        go_wp2_with fail
        first | go_end0 | refine bodyPost_ret (results_none rfl _ _ _) rfl ?_
        rw [← HR.out]
        exact ⟨rfl, HE2.out, HI2.out, HB1.out.trans (HB2.out.mono (fun _ _ h => .inl h))⟩
end Go.Proofs.YtpjllcengnolkaaGreatDoor
