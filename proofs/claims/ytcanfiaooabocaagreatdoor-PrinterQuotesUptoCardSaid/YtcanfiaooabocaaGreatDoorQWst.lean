/-
  Contract of the page's value: any value that may be, written; by levels.
  Contract of String on a page's Builder.
-/
import Derived.Test.YtcanfiaooabocaaGreatDoorQWho
set_option linter.unusedVariables false
set_option linter.unusedSimpArgs false
namespace Go.Proofs.YtcanfiaooabocaaGreatDoor
open Go.RowKit Go.Lib
attribute [local go_sem] Oper.semAt_some
theorem octs_u8 (t : ByteArray) : (octs t).map Nat.toUInt8 = t.data.toList := by
  unfold octs
  rw [List.map_map]
  conv => rhs; rw [← List.map_id t.data.toList]
  exact List.map_congr_left fun a _ => by simp
set_option maxRecDepth 100000 in
set_option maxHeartbeats 8000000 in
theorem value1_c {F : Value} {qc : Int → List UInt8} (hM : Md F qc) {B pb : Nat} {bs : List UInt8} {room st o : Nat} {S : Nat → Prop} {x : VT} {cs : List Value} (w : World) (hP : Pg B pb bs room st o F w) (hG : Gl B w) (hB : B ≤ w.heap.size)
    (hx : VIn w S x cs) (hS : ∀ b, S b → b < B) (h0 : alone x = 0) (hst : st ≤ 8) (ho : o ≤ 900) (hcap : bs.length + room ≤ 140737488355328)
    (hitem : x.kind = 5 ∨ x.kind = 6 → ∀ y ∈ x.list, ∀ (bs' : List UInt8) (room' : Nat) (w' : World) (ds : List Value), Pg B pb bs' room' st (o + 1) F w' → Gl B w' → B ≤ w'.heap.size → VIn w' S y ds → bs'.length + room' ≤ 140737488355328 →
      Calls Tryz.prog 26 #[pgP pb, .agg ds.toArray] w' (Wr B pb bs' room' st (o + 1) F w' (prV qc numP st (o + 1) y))) :
    Calls Tryz.prog 26 #[pgP pb, .agg cs.toArray] w (Wr B pb bs room st o F w (prV qc numP st o x)) := by
  have hf := alone_fields h0
  have hz := alone_zero h0
  have HX := Lib.hid hx
  have HITEM := Lib.hid hitem
  have HCAP := Lib.hid hcap
  clear hitem
  obtain ⟨k, neg, xs, e, t, li, ks, hxk⟩ : ∃ k neg xs e t li ks, x = VT.mk k neg xs e t li ks := by cases x; exact ⟨_, _, _, _, _, _, _, rfl⟩
  rw [hxk] at hx hf hz
  obtain ⟨A, n, c, LA, ln, lc, KA, kn, kc, rfl, hrd, hn, -, -, -, -, -⟩ := hx.parts
  simp only [VT.kind, VT.list, VT.num, VT.neg, VT.exp, VT.text, VT.keys] at hf hz
  obtain ⟨-, -, f3, -, f4, -, f6, fk, fl, -, -⟩ := hf
  obtain ⟨⟨z1, z2⟩, -⟩ := hz
  obtain ⟨bp, hbp⟩ : ∃ b, w.heap.size = b := ⟨_, rfl⟩
  have hb : But (fun _ => False) w (w.alloc (.cells #[.int .i64 k, .bool neg, .slice A n c, .int .i64 e, .string t, .slice LA ln lc, .slice KA kn kc] 28)) := (But.refl _ w).alloc _
  have hm := World.alloc_heap_new w (.cells #[.int .i64 k, .bool neg, .slice A n c, .int .i64 e, .string t, .slice LA ln lc, .slice KA kn kc] 28)
  rw [hbp] at hm
  have hP1 := hP.stay0 hb
  have hG1 := hG.low ((Soft.of0 (B := B) (pb := pb) hb).below hB hP.base)
  have hx1 := HX.out.keep (w' := w.alloc (.cells #[.int .i64 k, .bool neg, .slice A n c, .int .i64 e, .string t, .slice LA ln lc, .slice KA kn kc] 28)) fun p hp => (Soft.of0 hb).low hP.base hB (hS _ hp)
  have hrd1 : Rd (w.alloc (.cells #[.int .i64 k, .bool neg, .slice A n c, .int .i64 e, .string t, .slice LA ln lc, .slice KA kn kc] 28)) S A n xs := hrd.keep fun p hp => (Soft.of0 hb).low hP.base hB (hS _ hp)
  have hB1 : B ≤ (w.alloc (.cells #[.int .i64 k, .bool neg, .slice A n c, .int .i64 e, .string t, .slice LA ln lc, .slice KA kn kc] 28)).heap.size := by have := hb.size; omega
  have hS1 : ∀ b, S b → b < (w.alloc (.cells #[.int .i64 k, .bool neg, .slice A n c, .int .i64 e, .string t, .slice LA ln lc, .slice KA kn kc] 28)).heap.size := fun b h => Nat.lt_of_lt_of_le (hS b h) hB1
  have hpl := hP.lt
  have HX1 := Lib.hid hx1
  have HP1 := Lib.hid hP1
  have HG1 := Lib.hid hG1
  have HB := Lib.hid hb
  have HRD := Lib.hid hrd1
  have HF3 := Lib.hid f3
  have HF4 := Lib.hid f4
  have HF6 := Lib.hid f6
  have HFK := Lib.hid fk
  have HXK := Lib.hid hxk
  clear hx1 hP1 hG1 hb hrd hrd1 f3 f4 f6 fk hP hG HX hx hxk
  have hk7 : k = 0 ∨ k = 1 ∨ k = 2 ∨ k = 3 ∨ k = 4 ∨ k = 5 ∨ k = 6 := by omega
  obtain ⟨y0, y1, y2, y3, y4, y5, y6⟩ := box7_of hm
  obtain ⟨V, hV⟩ : ∃ V, prV qc numP st o x = V := ⟨_, rfl⟩
  rw [hV]
  have HV := Lib.hid hV
  clear hV hm z1 z2
  go_enter Tryz.func26, Tryz.ntmps26
  rcases hk7 with rfl | rfl | rfl | rfl | rfl | rfl | rfl
  · have hpv : prV qc numP st o x = [110, 117, 108, 108] := by rw [HXK.out]; unfold prV; rfl
    have HPV := Lib.hid hpv
    clear hpv
    go_wp2_with fail
    generalize (w.alloc (.cells #[.int .i64 0, .bool neg, .slice A n c, .int .i64 e, .string t, .slice LA ln lc, .slice KA kn kc] 28)) = w1 at *
    refine (putL_c w1 HP1.out ⟨#[110, 117, 108, 108]⟩ [110, 117, 108, 108] rfl (by simp only [List.length_cons, List.length_nil]; omega) hB1).mono ?_
    rintro e9 w9 (⟨hr9, rfl, hP9, hS9⟩ | ⟨hr9, rfl, hS9⟩)
    case inr => exact ⟨rfl, by rw [← HV.out, HPV.out]; exact Wr.no hr9 ((Soft.of0 HB.out).trans hS9)⟩
    have HP9 := Lib.hid hP9
    have HS9 := Lib.hid ((Soft.of0 HB.out).trans hS9)
    clear hP9 hS9
    go_wp2_with fail
    first | go_end0 | refine bodyPost_ret (results_none rfl _ _ _) rfl ?_
    rw [← HV.out, HPV.out]
    exact Wr.done hr9 HP9.out HS9.out
  · have hpv : prV qc numP st o x = [102, 97, 108, 115, 101] := by rw [HXK.out]; unfold prV; rfl
    have HPV := Lib.hid hpv
    clear hpv
    go_wp2_with fail
    generalize (w.alloc (.cells #[.int .i64 1, .bool neg, .slice A n c, .int .i64 e, .string t, .slice LA ln lc, .slice KA kn kc] 28)) = w1 at *
    refine (putL_c w1 HP1.out ⟨#[102, 97, 108, 115, 101]⟩ [102, 97, 108, 115, 101] rfl (by simp only [List.length_cons, List.length_nil]; omega) hB1).mono ?_
    rintro e9 w9 (⟨hr9, rfl, hP9, hS9⟩ | ⟨hr9, rfl, hS9⟩)
    case inr => exact ⟨rfl, by rw [← HV.out, HPV.out]; exact Wr.no hr9 ((Soft.of0 HB.out).trans hS9)⟩
    have HP9 := Lib.hid hP9
    have HS9 := Lib.hid ((Soft.of0 HB.out).trans hS9)
    clear hP9 hS9
    go_wp2_with fail
    first | go_end0 | refine bodyPost_ret (results_none rfl _ _ _) rfl ?_
    rw [← HV.out, HPV.out]
    exact Wr.done hr9 HP9.out HS9.out
  · have hpv : prV qc numP st o x = [116, 114, 117, 101] := by rw [HXK.out]; unfold prV; rfl
    have HPV := Lib.hid hpv
    clear hpv
    go_wp2_with fail
    generalize (w.alloc (.cells #[.int .i64 2, .bool neg, .slice A n c, .int .i64 e, .string t, .slice LA ln lc, .slice KA kn kc] 28)) = w1 at *
    refine (putL_c w1 HP1.out ⟨#[116, 114, 117, 101]⟩ [116, 114, 117, 101] rfl (by simp only [List.length_cons, List.length_nil]; omega) hB1).mono ?_
    rintro e9 w9 (⟨hr9, rfl, hP9, hS9⟩ | ⟨hr9, rfl, hS9⟩)
    case inr => exact ⟨rfl, by rw [← HV.out, HPV.out]; exact Wr.no hr9 ((Soft.of0 HB.out).trans hS9)⟩
    have HP9 := Lib.hid hP9
    have HS9 := Lib.hid ((Soft.of0 HB.out).trans hS9)
    clear hP9 hS9
    go_wp2_with fail
    first | go_end0 | refine bodyPost_ret (results_none rfl _ _ _) rfl ?_
    rw [← HV.out, HPV.out]
    exact Wr.done hr9 HP9.out HS9.out
  · have hpv : prV qc numP st o x = numP neg xs e := by rw [HXK.out]; unfold prV; rfl
    have HPV := Lib.hid hpv
    clear hpv
    go_wp2_with fail
    generalize (w.alloc (.cells #[.int .i64 3, .bool neg, .slice A n c, .int .i64 e, .string t, .slice LA ln lc, .slice KA kn kc] 28)) = w1 at *
    refine (DPrint_c neg e w1 HG1.out.ten HRD.out hS1 (by omega)).mono ?_
    rintro e9 w2 ⟨tx, rfl, htx, hts, hb2⟩
    have hpt : pT neg xs e = prt neg (val xs) e := by unfold pT; rw [if_pos (HF3.out (by trivial))]
    have htl : tx.data.toList = numP neg xs e := by rw [← octs_u8, htx, hpt]; rfl
    have hS2 := Soft.ofB (B := B) (pb := pb) hb2
    have HP2 := Lib.hid (HP1.out.stay0 (But.of hb2))
    have HTL := Lib.hid htl
    have HS2 := Lib.hid ((Soft.of0 HB.out).trans hS2)
    have hB2 : B ≤ w2.heap.size := by have := hS2.size; omega
    clear hpt htl hS2 hb2 htx
    go_wp2_with fail
    refine (putL_c w2 HP2.out tx (numP neg xs e) HTL.out (by omega) hB2).mono ?_
    rintro e9 w9 (⟨hr9, rfl, hP9, hS9⟩ | ⟨hr9, rfl, hS9⟩)
    case inr => exact ⟨rfl, by rw [← HV.out, HPV.out]; exact Wr.no hr9 (HS2.out.trans hS9)⟩
    have HP9 := Lib.hid hP9
    have HS9 := Lib.hid (HS2.out.trans hS9)
    clear hP9 hS9
    go_wp2_with fail
    first | go_end0 | refine bodyPost_ret (results_none rfl _ _ _) rfl ?_
    rw [← HV.out, HPV.out]
    exact Wr.done hr9 HP9.out HS9.out
  · have hpv : prV qc numP st o x = txtL qc t := by rw [HXK.out]; unfold prV; rfl
    have HPV := Lib.hid hpv
    clear hpv
    go_wp2_with fail
    generalize (w.alloc (.cells #[.int .i64 4, .bool neg, .slice A n c, .int .i64 e, .string t, .slice LA ln lc, .slice KA kn kc] 28)) = w1 at *
    refine (ptext_c hM w1 HP1.out HG1.out hB1 t (HF4.out (by trivial)).1 (by have := (HF4.out (by trivial)).2; omega) (.inr hcap)).mono ?_
    rintro e9 w9 (⟨hr9, rfl, hP9, hS9⟩ | ⟨hr9, rfl, hS9⟩)
    case inr => exact ⟨rfl, by rw [← HV.out, HPV.out]; exact Wr.no hr9 ((Soft.of0 HB.out).trans hS9)⟩
    have HP9 := Lib.hid hP9
    have HS9 := Lib.hid ((Soft.of0 HB.out).trans hS9)
    clear hP9 hS9
    go_wp2_with fail
    first | go_end0 | refine bodyPost_ret (results_none rfl _ _ _) rfl ?_
    rw [← HV.out, HPV.out]
    exact Wr.done hr9 HP9.out HS9.out
  · have hpv : prV qc numP st o x = holdL qc numP st o 91 93 x := prV_list (by rw [HXK.out]; rfl)
    have HPV := Lib.hid hpv
    clear hpv
    go_wp2_with fail
    generalize (w.alloc (.cells #[.int .i64 5, .bool neg, .slice A n c, .int .i64 e, .string t, .slice LA ln lc, .slice KA kn kc] 28)) = w1 at *
    refine (holder_c hM 91 93 w1 HP1.out HG1.out hB1 HX1.out hS (.inl (by rw [HXK.out]; rfl)) (fun h => by rw [HXK.out] at h; exact absurd h (by simp [VT.kind])) (by rw [HXK.out]; exact HFK.out) (by rw [HXK.out]; exact fl) hst ho hcap (HITEM.out (.inl (by rw [HXK.out]; rfl)))).mono ?_
    rintro e9 w9 (⟨hr9, rfl, hP9, hS9⟩ | ⟨hr9, rfl, hS9⟩)
    case inr => exact ⟨rfl, by rw [← HV.out, HPV.out]; exact Wr.no hr9 ((Soft.of0 HB.out).trans hS9)⟩
    have HP9 := Lib.hid hP9
    have HS9 := Lib.hid ((Soft.of0 HB.out).trans hS9)
    clear hP9 hS9
    go_wp2_with fail
    first | go_end0 | refine bodyPost_ret (results_none rfl _ _ _) rfl ?_
    rw [← HV.out, HPV.out]
    exact Wr.done hr9 HP9.out HS9.out
  · have hpv : prV qc numP st o x = holdL qc numP st o 123 125 x := prV_object (by rw [HXK.out]; rfl) (by rw [HXK.out]; exact (HF6.out (by trivial)).1)
    have HPV := Lib.hid hpv
    clear hpv
    go_wp2_with fail
    generalize (w.alloc (.cells #[.int .i64 6, .bool neg, .slice A n c, .int .i64 e, .string t, .slice LA ln lc, .slice KA kn kc] 28)) = w1 at *
    refine (holder_c hM 123 125 w1 HP1.out HG1.out hB1 HX1.out hS (.inr (by rw [HXK.out]; rfl)) (fun _ => by rw [HXK.out]; exact (HF6.out (by trivial)).1) (by rw [HXK.out]; exact HFK.out) (by rw [HXK.out]; exact fl) hst ho hcap (HITEM.out (.inr (by rw [HXK.out]; rfl)))).mono ?_
    rintro e9 w9 (⟨hr9, rfl, hP9, hS9⟩ | ⟨hr9, rfl, hS9⟩)
    case inr => exact ⟨rfl, by rw [← HV.out, HPV.out]; exact Wr.no hr9 ((Soft.of0 HB.out).trans hS9)⟩
    have HP9 := Lib.hid hP9
    have HS9 := Lib.hid ((Soft.of0 HB.out).trans hS9)
    clear hP9 hS9
    go_wp2_with fail
    first | go_end0 | refine bodyPost_ret (results_none rfl _ _ _) rfl ?_
    rw [← HV.out, HPV.out]
    exact Wr.done hr9 HP9.out HS9.out

theorem pvalue_c {F : Value} {qc : Int → List UInt8} (hM : Md F qc) {B pb st : Nat} {S : Nat → Prop} (hS : ∀ b, S b → b < B) (hst : st ≤ 8) : ∀ (k n : Nat) (x : VT) (cs : List Value) (bs : List UInt8) (room o : Nat) (w : World), k < n → dpt n x ≤ k → Gp x → o + k ≤ 900 →
    Pg B pb bs room st o F w → Gl B w → B ≤ w.heap.size → VIn w S x cs → bs.length + room ≤ 140737488355328 → Calls Tryz.prog 26 #[pgP pb, .agg cs.toArray] w (Wr B pb bs room st o F w (prV qc numP st o x)) := by
  intro k
  induction k with
  | zero =>
    intro n x cs bs room o w hkn hd hx ho hP hG hB hv hcap
    refine value1_c hM w hP hG hB hv hS hx.own.1 hst (by omega) hcap fun h => ?_
    exfalso
    obtain ⟨m, rfl⟩ : ∃ m, n = m + 1 := ⟨n - 1, by omega⟩
    unfold dpt at hd
    have hho : hold x.kind = true := by unfold hold; rcases h with h | h <;> rw [h] <;> rfl
    rw [if_pos hho] at hd
    omega
  | succ k ih =>
    intro n x cs bs room o w hkn hd hx ho hP hG hB hv hcap
    refine value1_c hM w hP hG hB hv hS hx.own.1 hst (by omega) hcap fun h y hy bs' room' w' ds hP' hG' hB' hv' hcap' => ?_
    obtain ⟨m, rfl⟩ : ∃ m, n = m + 1 := ⟨n - 1, by omega⟩
    have hho : hold x.kind = true := by unfold hold; rcases h with h | h <;> rw [h] <;> rfl
    have hdz : dpt m y ≤ k := by
      unfold dpt at hd
      rw [if_pos hho] at hd
      have h1 : dpt m y ≤ mxL (x.list.map (dpt m)) := by
        have key : ∀ l : List Nat, ∀ a ∈ l, a ≤ mxL l := fun l => by
          induction l with
          | nil => intro a h; exact absurd h (by simp)
          | cons b r ihh =>
            intro a h
            simp only [mxL]
            rcases List.mem_cons.1 h with rfl | h
            · omega
            · have := ihh a h; omega
        exact key _ _ (List.mem_map.2 ⟨y, hy, rfl⟩)
      omega
    have hin := (alone_fields hx.own.1).1
    exact ih m y ds bs' room' (o + 1) w' (by omega) hdz (hx.sub (hin ▸ hy)) (by omega) hP' hG' hB' hv' hcap'
end Go.Proofs.YtcanfiaooabocaaGreatDoor

namespace Go.Proofs.YtcanfiaooabocaaGreatDoor
open Go.RowKit Go.Lib

theorem Soft.freeze {B pb g : Nat} {w : World} {cur : Array Value} {fr : Nat × Nat} (hg : w.heap[g]? = some (.cells cur 5 fr)) (hb : B ≤ g) (n : Nat) : Soft B pb w (w.freeze ⟨g, 0, none⟩ n) := by
  unfold World.freeze
  split
  · exact Soft.refl _ _ _
  · refine ⟨rfl, rfl, rfl, by simp, fun k hk hp hc => ?_⟩
    show (w.heap.modify g _)[k]? = _
    rw [Array.getElem?_modify, if_neg]
    rintro rfl
    rcases hc with hc | hc
    · omega
    · exact hc _ _ hg
set_option maxHeartbeats 1000000 in
set_option maxRecDepth 100000 in
theorem string_c {B pb : Nat} {bs : List UInt8} {room st o : Nat} {F : Value} (w : World) (hP : Pg B pb bs room st o F w) (h0 : bs ≠ []) :
    Calls Tryz.prog 39 #[pgP pb] w fun e w' => e = .returned (.string ⟨bs.toArray⟩) ∧ Soft B pb w w' := by
  obtain ⟨p, v, hp, hx, hown⟩ := hP.box
  have hl0 : bs.length ≠ 0 := by simpa using h0
  obtain ⟨g, cap, cur, rfl, hbg, hg, hnc, hcm, hcs, htake⟩ : ∃ g cap cur, v = .slice (some ⟨g, 0, none⟩) bs.length cap ∧ B ≤ g ∧ w.heap[g]? = some (.cells cur 5 (0, 0)) ∧ bs.length ≤ cap ∧ cap ≤ maxLen ∧ cur.size = cap * 1 ∧ cur.toList.take (bs.length * 1) = Lib.byteCells bs := by
    rcases hown.2 with ⟨_, hz⟩ | ⟨g, cap, cur, hv, r⟩
    · exact absurd hz hl0
    · exact ⟨g, cap, cur, hv, r⟩
  have c1 : w.drew.cell? ⟨pb, 1, none⟩ = some (.slice (some ⟨g, 0, none⟩) bs.length cap) := cell_at3 (w := w.drew) (i := 1) (show w.drew.heap[pb]? = _ from hx) rfl
  have hSD : (Builtin.unsafeSliceData_ #[38] 99 #[.slice (some ⟨g, 0, none⟩) bs.length cap]).run Tryz.prog w.drew = .ok (.pointer (some ⟨g, 0, none⟩)) w.drew :=
    Lib.run_unsafeSliceData_row _ _ _ _ _ _ (by omega)
  have hUS : (Builtin.unsafeString_ #[99, 3] 9 #[.pointer (some ⟨g, 0, none⟩), .int .i64 bs.length]).run Tryz.prog w.drew = .ok (.string ⟨bs.toArray⟩) (w.drew.freeze ⟨g, 0, none⟩ bs.length) := by
    refine Lib.run_unsafeString_row w.drew 99 3 9 5 (by kernel_rfl) (by kernel_rfl) g cur.size (by have hg' : w.drew.heap[g]? = some (.cells cur 5 (0, 0)) := hg; simp [World.shape?, hg']) bs h0 (by omega) (by unfold maxLen at hcm; omega) ?_
    intro j x hx
    have := hown.cells (g := g) rfl j (.int .u8 x.toNat) (by simp [Lib.byteCells, hx])
    exact this
  have hS : Soft B pb w (w.drew.freeze ⟨g, 0, none⟩ bs.length) := (Soft.refl B pb w).drw.trans (Soft.freeze (w := w.drew) (cur := cur) (fr := (0, 0)) hg hbg _)
  have HS := Lib.hid hS
  have mixed : Tryz.prog.follows .mixedOrders = true := by kernel_rfl
  clear hS hown htake hcs hcm hg hx hp
  go_enter Tryz.func39, Tryz.ntmps39
  go_wp2
  go_region_o
  all_goals (go_wp2; first | go_end0 | refine bodyPost_ret (results_none rfl _ _ _) rfl ?_ | go_ret2 | go_ret; try exact ⟨rfl, HS.out⟩)
end Go.Proofs.YtcanfiaooabocaaGreatDoor
