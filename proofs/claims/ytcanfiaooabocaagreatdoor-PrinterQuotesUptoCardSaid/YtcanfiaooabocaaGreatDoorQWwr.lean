/-
  Contract of written and of its deferred closure.
-/
import Derived.Test.YtcanfiaooabocaaGreatDoorQWst
import Derived.Defers
import Derived.Recover
set_option linter.unusedVariables false
set_option linter.unusedSimpArgs false
namespace Go.Proofs.YtcanfiaooabocaaGreatDoor
open Go.RowKit Go.Lib

@[go_sem] theorem wassert_fault (v : Value) (w : World) : (Instr.typeAssert (.iface 83 v) 20 83 true).run Tryz.prog w = .ok (.tuple #[v, .bool true]) w := by kernel_rfl
@[go_sem] theorem wassert_nil (w : World) : (Instr.typeAssert .nilIface 20 83 true).run Tryz.prog w = .ok (.tuple #[.agg #[.int .i64 0], .bool false]) w := by kernel_rfl
set_option maxRecDepth 100000 in
set_option maxHeartbeats 2000000 in
theorem wcatch_fault (b1 b2 : Nat) (x : Int) (s0 : Value) (n0 : Value) (older : List PanicEntry) (w : World) (h0 : w.heap[b1]? = some (.cells #[s0] 9)) (h1 : w.heap[b2]? = some (.cells #[n0] 30)) (hne : b1 ≠ b2) :
    CallsD Tryz.prog 46 #[.pointer (some ⟨b1, 0, none⟩), .pointer (some ⟨b2, 0, none⟩)] (.panicking ({ v := .iface 83 (.agg #[.int .i64 x]), recovered := false } :: older)) w fun e u' w' =>
      e = .returned (.tuple #[]) ∧ u' = .panicking ({ v := .iface 83 (.agg #[.int .i64 x]), recovered := true } :: older) ∧
        w'.heap[b1]? = some (.cells #[.string ⟨#[]⟩] 9) ∧ w'.heap[b2]? = some (.cells #[.int .i64 x] 30) ∧ But (fun k => k = b1 ∨ k = b2) w w' := by
  have mixed : Tryz.prog.follows .mixedOrders = true := by kernel_rfl
  obtain ⟨fb, hfb⟩ : ∃ b, w.heap.size = b := ⟨_, rfl⟩
  have hl1 := (Array.getElem?_eq_some_iff.1 h0).1
  have hl2 := (Array.getElem?_eq_some_iff.1 h1).1
  have hb := (But.refl (fun k => k = b1 ∨ k = b2) w).alloc (.cells #[.int .i64 x] 83)
  have k0 := (Below.heap_alloc w (.cells #[.int .i64 x] 83) b1 hl1).trans h0
  have k1 := (Below.heap_alloc w (.cells #[.int .i64 x] 83) b2 hl2).trans h1
  have kf := World.alloc_heap_new w (.cells #[.int .i64 x] 83)
  rw [hfb] at kf hl1 hl2
  refine callsD_of_wpS Tryz.func46 rfl fun c₀ cs hu => ?_
  apply wpS_seq
  apply wpS_region
  simp [wpOpsS, go_sem, recoverD, hu, Tryz.ntmps46, Exit.thenS]
  refine wpS_of_wp ?_
  obtain ⟨F, hF⟩ : ∃ F, F = Value.iface 83 (.agg #[.int .i64 x]) := ⟨_, rfl⟩
  have ht : (#[Value.pointer (some ⟨b1, 0, none⟩), Value.pointer (some ⟨b2, 0, none⟩)] ++ (((Array.replicate 14 undef).setIfInBounds 3 F).setIfInBounds 0 F)) = #[.pointer (some ⟨b1, 0, none⟩), .pointer (some ⟨b2, 0, none⟩), F, undef, undef, F, undef, undef, undef, undef, undef, undef, undef, undef, undef, undef] := rfl
  rw [hF] at ht
  rw [ht]
  clear ht hF
  try rw [hfb]
  go_wp2
  have hb9 := hb
  generalize (w.alloc (.cells #[.int .i64 x] 83)) = W at *
  obtain ⟨V, hV⟩ : ∃ V, W = V := ⟨_, rfl⟩
  have j0 : V.heap[b1]? = some (.cells #[s0] 9) := by rw [← hV]; exact k0
  have j1 : V.heap[b2]? = some (.cells #[n0] 30) := by rw [← hV]; exact k1
  have jf : V.heap[fb]? = some (.cells #[.int .i64 x] 83) := by rw [← hV]; exact kf
  have hbV : But (fun k => k = b1 ∨ k = b2) w V := by rw [← hV]; exact ⟨hb9.os, hb9.tape, hb9.output, hb9.size, hb9.block⟩
  have m0 : (V.setCell ⟨b1, 0, none⟩ (.string ⟨#[]⟩)).heap[b2]? = some (.cells #[n0] 30) := by rw [Below.heap_setCell _ _ _ _ (by show b2 ≠ b1; omega)]; exact j1
  have mf : (V.setCell ⟨b1, 0, none⟩ (.string ⟨#[]⟩)).heap[fb]? = some (.cells #[.int .i64 x] 83) := by rw [Below.heap_setCell _ _ _ _ (by show fb ≠ b1; omega)]; exact jf
  have c0 := cell_at3 (i := 0) j0 rfl
  have c1 := cell_at3 (i := 0) j1 rfl
  have cf := cell_at3 (i := 0) jf rfl
  have d1 := cell_at3 (i := 0) m0 rfl
  have df := cell_at3 (i := 0) mf rfl
  have z0 : V.frozen? ⟨b1, 0, none⟩ = false := by simp [World.frozen?, j0]
  have z1 : V.frozen? ⟨b2, 0, none⟩ = false := by simp [World.frozen?, j1]
  have z2 : (V.setCell ⟨b1, 0, none⟩ (.string ⟨#[]⟩)).frozen? ⟨b2, 0, none⟩ = false := by simp [World.frozen?, m0]
  have hfin1 : ((V.setCell ⟨b1, 0, none⟩ (.string ⟨#[]⟩)).setCell ⟨b2, 0, none⟩ (.int .i64 x)).heap[b1]? = some (.cells #[.string ⟨#[]⟩] 9) := by
    rw [Below.heap_setCell _ _ _ _ (by show b1 ≠ b2; omega)]
    simpa using set_page (w := V) (pb := b1) (i := 0) (.string ⟨#[]⟩) j0
  have hfin2 : ((V.setCell ⟨b1, 0, none⟩ (.string ⟨#[]⟩)).setCell ⟨b2, 0, none⟩ (.int .i64 x)).heap[b2]? = some (.cells #[.int .i64 x] 30) := by
    simpa using set_page (w := V.setCell ⟨b1, 0, none⟩ (.string ⟨#[]⟩)) (pb := b2) (i := 0) (.int .i64 x) m0
  have hfin3 : But (fun k => k = b1 ∨ k = b2) w ((V.setCell ⟨b1, 0, none⟩ (.string ⟨#[]⟩)).setCell ⟨b2, 0, none⟩ (.int .i64 x)) :=
    But.setCell (p := ⟨b2, 0, none⟩) (But.setCell (p := ⟨b1, 0, none⟩) hbV (.inl (.inl rfl)) _) (.inl (.inr rfl)) _
  have H1 := Lib.hid hfin1
  have H2 := Lib.hid hfin2
  have H3 := Lib.hid hfin3
  clear hfin1 hfin2 hfin3 hbV hb9 hb k0 k1 kf j0 j1 jf m0 mf h0 h1
  subst hV
  go_region_o
  all_goals go_wp2
  all_goals
    have r1 : ((W.setCell ⟨b1, 0, none⟩ (.string ⟨#[]⟩)).setCell ⟨b2, 0, none⟩ (.int .i64 x)).drew.heap[b1]? = some (.cells #[.string ⟨#[]⟩] 9) := H1.out
    have r2 : ((W.setCell ⟨b1, 0, none⟩ (.string ⟨#[]⟩)).setCell ⟨b2, 0, none⟩ (.int .i64 x)).drew.heap[b2]? = some (.cells #[.int .i64 x] 30) := H2.out
    have r3 : But (fun k => k = b1 ∨ k = b2) w ((W.setCell ⟨b1, 0, none⟩ (.string ⟨#[]⟩)).setCell ⟨b2, 0, none⟩ (.int .i64 x)).drew := ⟨H3.out.os, H3.out.tape, H3.out.output, H3.out.size, H3.out.block⟩
    generalize ((W.setCell ⟨b1, 0, none⟩ (.string ⟨#[]⟩)).setCell ⟨b2, 0, none⟩ (.int .i64 x)).drew = Y at *
    refine ⟨rfl, _, rfl, _, results_none rfl _ _ _, rfl, rfl, r1, r2, r3⟩
set_option maxRecDepth 100000 in
set_option maxHeartbeats 1000000 in
theorem wcatch_idle (b1 b2 : Nat) (w : World) :
    CallsD Tryz.prog 46 #[.pointer (some ⟨b1, 0, none⟩), .pointer (some ⟨b2, 0, none⟩)] .returning w fun e u' w' => e = .returned (.tuple #[]) ∧ u' = .returning ∧ w' = w.alloc (.cells #[.int .i64 0] 83) := by
  refine callsD_of_wpS Tryz.func46 rfl fun c₀ cs hu => ?_
  apply wpS_seq
  apply wpS_region
  simp [wpOpsS, go_sem, recoverD, hu, Tryz.ntmps46, Exit.thenS]
  refine wpS_of_wp ?_
  have ht : (#[Value.pointer (some ⟨b1, 0, none⟩), Value.pointer (some ⟨b2, 0, none⟩)] ++ (((Array.replicate 14 undef).setIfInBounds 3 Value.nilIface).setIfInBounds 0 Value.nilIface)) = #[.pointer (some ⟨b1, 0, none⟩), .pointer (some ⟨b2, 0, none⟩), .nilIface, undef, undef, .nilIface, undef, undef, undef, undef, undef, undef, undef, undef, undef, undef] := rfl
  rw [ht]
  go_wp2
  cases c₀
  simp_all [bodyPostS, results, Tryz.results46]

/-- What written comes to, of a page that octets are written on. -/
def WrE (out : List UInt8) (room : Nat) (e : Ending) : Prop :=
  (out.length ≤ room ∧ e = .returned (.tuple #[.string ⟨out.toArray⟩, .int .i64 0])) ∨ (room < out.length ∧ e = .returned (.tuple #[.string ⟨#[]⟩, .int .i64 5]))
set_option maxRecDepth 100000 in
set_option maxHeartbeats 4000000 in
theorem written_c {F : Value} {room st : Nat} {out : List UInt8} {fn : Nat} {cp : Value} (w : World) (hroom : room ≤ 9223372036854775807) (h0 : out ≠ []) (hcf : ∀ (ar : Array Value) (W : World), (callFunc fn ar).run Tryz.prog W = .ok (.enter fn ar) W)
    (hwr : ∀ w', Pg w.heap.size w.heap.size [] room st 0 F w' → But (fun _ => False) w w' → Calls Tryz.prog fn #[pgP w.heap.size, cp] w' (Wr w.heap.size w.heap.size [] room st 0 F w' out)) :
    Calls Tryz.prog 23 #[.agg #[.pointer none, .slice none 0 0, .int .i64 (room : Int), .int .i64 (st : Int), .int .i64 0, F], .func (.func fn) #[] #[cp]] w fun e w' => WrE out room e ∧ Below w.heap.size w w' := by
  have hmf : ∀ (fn : Fn) (first cap : Array Value) (w : World), (Instr.makeFunc fn first cap).run Tryz.prog w = .ok (.func fn first cap) w := fun _ _ _ _ => rfl
  obtain ⟨pb, hpb⟩ : ∃ b, w.heap.size = b := ⟨_, rfl⟩
  rw [hpb] at hwr ⊢
  obtain ⟨w3, hw3⟩ : ∃ w3, ((w.alloc (.cells #[.pointer none, .slice none 0 0, .int .i64 (room : Int), .int .i64 (st : Int), .int .i64 0, F] 61)).alloc (.cells #[.string ⟨#[]⟩] 9)).alloc (.cells #[.int .i64 0] 30) = w3 := ⟨_, rfl⟩
  have hb3 : But (fun _ => False) w w3 := by rw [← hw3]; exact (((But.refl _ w).alloc _).alloc _).alloc _
  have hp3 : w3.heap[pb]? = some (pgO (.pointer none) (.slice none 0 0) room st 0 F) := by
    rw [← hw3, Below.heap_alloc _ _ _ (by simp; omega), Below.heap_alloc _ _ _ (by simp; omega), ← hpb]; exact World.alloc_heap_new _ _
  have h13 : w3.heap[pb + 1]? = some (.cells #[.string ⟨#[]⟩] 9) := by
    rw [← hw3, Below.heap_alloc _ _ _ (by simp; omega)]
    have := World.alloc_heap_new (w.alloc (.cells #[.pointer none, .slice none 0 0, .int .i64 (room : Int), .int .i64 (st : Int), .int .i64 0, F] 61)) (.cells #[.string ⟨#[]⟩] 9)
    rwa [World.size_alloc, hpb] at this
  have h23 : w3.heap[pb + 1 + 1]? = some (.cells #[.int .i64 0] 30) := by
    rw [← hw3]
    have := World.alloc_heap_new ((w.alloc (.cells #[.pointer none, .slice none 0 0, .int .i64 (room : Int), .int .i64 (st : Int), .int .i64 0, F] 61)).alloc (.cells #[.string ⟨#[]⟩] 9)) (.cells #[.int .i64 0] 30)
    rwa [World.size_alloc, World.size_alloc, hpb] at this
  have hs3 : w3.heap.size = pb + 3 := by rw [← hw3]; simp; omega
  have hP3 : Pg pb pb [] room st 0 F w3 := ⟨Nat.le_refl _, ⟨_, _, .inl rfl, hp3, ⟨rfl, .inl ⟨rfl, rfl⟩⟩⟩, hroom⟩
  have hc := hwr w3 hP3 hb3
  have HC := Lib.hid hc
  have HB3 := Lib.hid hb3
  have HP3 := Lib.hid hP3
  have H13 := Lib.hid h13
  have H23 := Lib.hid h23
  have HPB := Lib.hid hpb
  have HW3 := Lib.hid hw3
  clear hc hwr hb3 hp3 hP3 h13 h23 hw3
  go_enter_defers Tryz.func23, Tryz.ntmps23
  go_wp2_with fail
  rw [HW3.out]
  refine HC.out.mono ?_
  rintro e9 w4 (⟨hr4, rfl, hP4, hS4⟩ | ⟨hr4, rfl, hS4⟩)
  case inr =>
    have k1 := hS4.keep H13.out (by omega) (by decide)
    have k2 := hS4.keep H23.out (by omega) (by decide)
    have HS := Lib.hid hS4
    clear hS4
    go_wp2_with fail
    refine leaves_cons (f := 46) (args := #[.pointer (some ⟨pb + 1, 0, none⟩), .pointer (some ⟨pb + 1 + 1, 0, none⟩)]) (by simp) (by simp [go_sem]) ?_
    refine (wcatch_fault (pb + 1) (pb + 1 + 1) 5 _ _ [] w4 k1 k2 (by omega)).mono ?_
    rintro e u' w'' ⟨rfl, rfl, j1, j2, hb⟩
    have y0 := cell_at3 (i := 0) j1 rfl
    have y1 := cell_at3 (i := 0) j2 rfl
    simp [Leaves, settle, results, Tryz.results23, go_sem, y0, y1]
    refine ⟨.inr ⟨hr4, rfl⟩, ?_⟩
    have hlow := HS.out.below (by omega) (Nat.le_refl pb)
    exact ⟨hb.os.trans (hlow.os.trans HB3.out.os), hb.tape.trans (hlow.tape.trans HB3.out.tape), hb.output.trans (hlow.output.trans HB3.out.output), Nat.le_trans HB3.out.size (Nat.le_trans hlow.size hb.size), fun q hq => (hb.block q (by have := hlow.size; omega) (by omega)).trans ((hlow.block q hq).trans (HB3.out.block q (by omega) (fun h => h)))⟩
  have k1 := hS4.keep H13.out (by omega) (by decide)
  have k2 := hS4.keep H23.out (by omega) (by decide)
  have hst := string_c w4 hP4 (by simpa using h0)
  have HS := Lib.hid hS4
  have HST := Lib.hid hst
  have K1 := Lib.hid k1
  have K2 := Lib.hid k2
  clear hS4 hst hP4 k1 k2
  go_wp2_with fail
  refine HST.out.mono ?_
  rintro e9 w5 ⟨rfl, hS5⟩
  have k1 := hS5.keep K1.out (by omega) (by decide)
  have k2 := hS5.keep K2.out (by omega) (by decide)
  have x1 := cell_at3 (i := 0) k1 rfl
  have x2 := cell_at3 (i := 0) k2 rfl
  have z1 : w5.frozen? ⟨pb + 1, 0, none⟩ = false := by simp [World.frozen?, k1]
  have z2 : w5.frozen? ⟨pb + 1 + 1, 0, none⟩ = false := by simp [World.frozen?, k2]
  have HS5 := Lib.hid (HS.out.trans hS5)
  have K15 := Lib.hid k1
  have K25 := Lib.hid k2
  clear hS5 k1 k2
  go_wp2_with fail
  refine leaves_cons (f := 46) (args := #[.pointer (some ⟨pb + 1, 0, none⟩), .pointer (some ⟨pb + 1 + 1, 0, none⟩)]) (by simp) (by simp [go_sem]) ?_
  refine (wcatch_idle (pb + 1) (pb + 1 + 1) _).mono ?_
  rintro e u' w'' ⟨rfl, rfl, rfl⟩
  have hC : But (fun k => k = pb + 1 ∨ k = pb + 1 + 1) w5 (((w5.setCell ⟨pb + 1, 0, none⟩ (.string ⟨out.toArray⟩)).setCell ⟨pb + 1 + 1, 0, none⟩ (.int .i64 0)).alloc (.cells #[.int .i64 0] 83)) :=
    (But.setCell (p := ⟨pb + 1 + 1, 0, none⟩) (But.setCell (p := ⟨pb + 1, 0, none⟩) (But.refl _ _) (.inl (.inl rfl)) _) (.inl (.inr rfl)) _).alloc _
  have hl5 : pb + 1 + 1 < w5.heap.size := (Array.getElem?_eq_some_iff.1 K25.out).1
  have j1 : (((w5.setCell ⟨pb + 1, 0, none⟩ (.string ⟨out.toArray⟩)).setCell ⟨pb + 1 + 1, 0, none⟩ (.int .i64 0)).alloc (.cells #[.int .i64 0] 83)).heap[pb + 1]? = some (.cells #[.string ⟨out.toArray⟩] 9) := by
    rw [Below.heap_alloc _ _ _ (by simp [World.setCell]; omega), Below.heap_setCell _ _ _ _ (by show pb + 1 ≠ pb + 1 + 1; omega)]
    simpa using set_page (w := w5) (pb := pb + 1) (i := 0) (.string ⟨out.toArray⟩) K15.out
  have j2 : (((w5.setCell ⟨pb + 1, 0, none⟩ (.string ⟨out.toArray⟩)).setCell ⟨pb + 1 + 1, 0, none⟩ (.int .i64 0)).alloc (.cells #[.int .i64 0] 83)).heap[pb + 1 + 1]? = some (.cells #[.int .i64 0] 30) := by
    rw [Below.heap_alloc _ _ _ (by simp [World.setCell]; omega)]
    have h9 : (w5.setCell ⟨pb + 1, 0, none⟩ (.string ⟨out.toArray⟩)).heap[pb + 1 + 1]? = some (.cells #[.int .i64 0] 30) := by rw [Below.heap_setCell _ _ _ _ (by show pb + 1 + 1 ≠ pb + 1; omega)]; exact K25.out
    simpa using set_page (w := w5.setCell ⟨pb + 1, 0, none⟩ (.string ⟨out.toArray⟩)) (pb := pb + 1 + 1) (i := 0) (.int .i64 0) h9
  clear x1 x2 z1 z2
  generalize (((w5.setCell ⟨pb + 1, 0, none⟩ (.string ⟨out.toArray⟩)).setCell ⟨pb + 1 + 1, 0, none⟩ (.int .i64 0)).alloc (.cells #[.int .i64 0] 83)) = w6 at *
  have y0 := cell_at3 (i := 0) j1 rfl
  have y1 := cell_at3 (i := 0) j2 rfl
  simp [Leaves, settle, results, Tryz.results23, go_sem, y0, y1]
  refine ⟨.inl ⟨hr4, by simp⟩, ?_⟩
  have hlow := HS5.out.below (by omega) (Nat.le_refl pb)
  exact ⟨hC.os.trans (hlow.os.trans HB3.out.os), hC.tape.trans (hlow.tape.trans HB3.out.tape), hC.output.trans (hlow.output.trans HB3.out.output), Nat.le_trans HB3.out.size (Nat.le_trans hlow.size hC.size), fun q hq => (hC.block q (by have := hlow.size; omega) (by omega)).trans ((hlow.block q hq).trans (HB3.out.block q (by omega) (fun h => h)))⟩
end Go.Proofs.YtcanfiaooabocaaGreatDoor
