/-
  Contract of the scan's value, at every number of levels, over that of objects.
  Contracts of Next's closure, of caught and of its deferred closure.
-/
import Derived.Test.YtpjllcengnolkaaGreatDoorPLvl
import Derived.Defers
import Derived.Recover
import Derived.Laws.Pointers
set_option linter.unusedVariables false
set_option linter.unusedSimpArgs false
namespace Go.Proofs.YtpjllcengnolkaaGreatDoor
open Go.RowKit Go.Lib

theorem value_spec0 (L : List UInt8) (nth p : Nat) : (rBegin 0 nth L p).bind (fun _ q => (rPeek L q).bind fun c q => rBr (rFail 0) (rFail 0) c L q) = rValue mkObj 0 nth L p := by
  show _ = (rBegin 0 nth L p).bind (fun _ q => (rPeek L q).bind fun c q => rLow4 c L q)
  cases hr : rBegin 0 nth L p with
  | bad q x => rfl
  | ok u q =>
    obtain ⟨rfl, hpl, x, hx, hk⟩ := begin_ok hr
    have hpk : rPeek L q = .ok x q := by unfold rPeek; rw [hx]
    simp only [RR.bind, hpk]
    have h1 : (x == 91 || x == 123) = false := by
      cases h : (x == 91 || x == 123) with
      | false => rfl
      | true => exact absurd rfl (hk h)
    rw [Bool.or_eq_false_iff] at h1
    unfold rBr
    rw [h1.1, h1.2]; rfl
theorem val_zero : ValC 0 := fun nth E hcap hko hn => value_br E hcap hko hn (rFail 0) (rFail 0) (fun h => absurd rfl h) (fun h => absurd rfl h) _ (value_spec0 _ _ _)
theorem val_succ {k : Nat} (ih : ValC k) (ho : ObjC k) : ValC (k + 1) := fun nth E hcap hko hn =>
  value_br E hcap hko hn (fun b p => (rItems 93 (rValue mkObj k) b p).bind fun l q => rHeld p (.mk 5 false [] 0 ⟨#[]⟩ l []) b q) (fun b p => (rItems 125 (rPair k) b p).bind fun l q => rHeld p (mkObj l) b q)
    (fun _ W E' hpl => list_c ih E' (by omega) hcap hpl) (fun _ W E' hpl => ho E' (by omega) hcap hpl) _ rfl
theorem val_all (ho : ∀ k, ValC k → ObjC k) : ∀ k, ValC k
  | 0 => val_zero
  | k + 1 => val_succ (val_all ho k) (ho k (val_all ho k))
end Go.Proofs.YtpjllcengnolkaaGreatDoor

namespace Go.Proofs.YtpjllcengnolkaaGreatDoor
open Go.RowKit Go.Lib

/-- What Next's closure comes to: the value lies in the box that it was told. -/
def PoN (B : Nat) (L : List UInt8) (A : Option Addr) (c sb ob N : Nat) (w : World) (r : RR VT) (e : Ending) (w' : World) : Prop :=
  match r with
  | .ok x q => e = .returned (.tuple #[]) ∧ Env B L A c sb w' q 0 ∧ But (fun k => k = sb ∨ k = ob) w w' ∧ ∃ k neg A1 n1 c1 e1 t LA1 ln1 lc1 KA1 kn1 kc1, w'.heap[ob]? = some (.cells #[.int .i64 k, .bool neg, .slice A1 n1 c1, .int .i64 e1, .string t, .slice LA1 ln1 lc1, .slice KA1 kn1 kc1] 34) ∧ VIn w' (fun b => N ≤ b ∧ b < w'.heap.size) x [.int .i64 k, .bool neg, .slice A1 n1 c1, .int .i64 e1, .string t, .slice LA1 ln1 lc1, .slice KA1 kn1 kc1]
  | .bad q x => e = Flt q x ∧ But (fun k => k = sb ∨ k = ob) w w'
set_option maxRecDepth 100000 in
set_option maxHeartbeats 2000000 in
theorem next1_c (hv : ValC 64) {B : Nat} {L : List UInt8} {A : Option Addr} {c sb ob : Nat} {w : World} {p : Nat} (E : Env B L A c sb w p 0) (hcap : L.length ≤ c) (hbo : B ≤ ob) (hos : ob ≠ sb)
    (hob : w.heap[ob]? = some (.cells #[.int .i64 0, .bool false, .slice none 0 0, .int .i64 0, .string ⟨#[]⟩, .slice none 0 0, .slice none 0 0] 34)) :
    Calls Tryz.prog 28 #[ptr sb, ptr ob] w (PoN B L A c sb ob w.heap.size w (rValue mkObj 64 1 L p)) := by
  obtain ⟨R, hR⟩ : ∃ R, rValue mkObj 64 1 L p = R := ⟨_, rfl⟩
  have hc := hv 1 E hcap (by omega) (by omega)
  rw [hR] at hc ⊢
  have HC := Lib.hid hc
  have HOB := Lib.hid hob
  have HE := Lib.hid E
  clear hc hR hob E
  go_enter Tryz.func28, Tryz.ntmps28
  go_wp2_with fail
  refine HC.out.mono ?_
  intro e w2 hp
  cases R with
  | bad q x =>
    obtain ⟨rfl, hb⟩ := hp
    go_wp2_with fail
    exact ⟨rfl, rfl, hb.mono (fun _ _ h => .inl h)⟩
  | ok a q =>
    obtain ⟨⟨v, rfl, cs, rfl, hva⟩, hE2, hb2⟩ := hp
    obtain ⟨k1, neg1, xs1, e1, t1, li1, ks1, hak⟩ : ∃ k neg xs e t li ks, a = VT.mk k neg xs e t li ks := by cases a; exact ⟨_, _, _, _, _, _, _, rfl⟩
    have hvb := hva
    rw [hak] at hvb
    obtain ⟨A1, n1, c1, LA1, ln1, lc1, KA1, kn1, kc1, rfl, -⟩ := hvb.parts
    have ho2 := (hb2.block ob (Array.getElem?_eq_some_iff.1 HOB.out).1 hos).trans HOB.out
    have hol := (Array.getElem?_eq_some_iff.1 HOB.out).1
    obtain ⟨y0, y1, y2, y3, y4, y5, y6⟩ := box7_of ho2
    have f0 : w2.frozen? ⟨ob, 0, none⟩ = false := by simp [World.frozen?, ho2]
    have f1 : w2.frozen? ⟨ob, 1, none⟩ = false := by simp [World.frozen?, ho2]
    have f2 : w2.frozen? ⟨ob, 2, none⟩ = false := by simp [World.frozen?, ho2]
    have f3 : w2.frozen? ⟨ob, 3, none⟩ = false := by simp [World.frozen?, ho2]
    have f4 : w2.frozen? ⟨ob, 4, none⟩ = false := by simp [World.frozen?, ho2]
    have f5 : w2.frozen? ⟨ob, 5, none⟩ = false := by simp [World.frozen?, ho2]
    have f6 : w2.frozen? ⟨ob, 6, none⟩ = false := by simp [World.frozen?, ho2]
    have HVA := Lib.hid hva
    have HE2 := Lib.hid hE2
    have HB2 := Lib.hid hb2
    have HO2 := Lib.hid ho2
    have HBO := Lib.hid hbo
    clear hvb hak hva hE2 hb2 ho2
    go_wp2_with fail
    first | go_end0 | refine bodyPost_ret (results_none rfl _ _ _) rfl ?_
    have hC : But (fun j => j = ob) w2 (((((((w2.setCell ⟨ob, 0, none⟩ (.int .i64 k1)).setCell ⟨ob, 1, none⟩ (.bool neg1)).setCell ⟨ob, 2, none⟩ (.slice A1 n1 c1)).setCell ⟨ob, 3, none⟩ (.int .i64 e1)).setCell ⟨ob, 4, none⟩ (.string t1)).setCell ⟨ob, 5, none⟩ (.slice LA1 ln1 lc1)).setCell ⟨ob, 6, none⟩ (.slice KA1 kn1 kc1)) := (But.setCell (C := fun j => j = ob) (But.setCell (C := fun j => j = ob) (But.setCell (C := fun j => j = ob) (But.setCell (C := fun j => j = ob) (But.setCell (C := fun j => j = ob) (But.setCell (C := fun j => j = ob) (But.setCell (C := fun j => j = ob) (But.refl _ _) (p := ⟨ob, 0, none⟩) (.inl rfl) _) (p := ⟨ob, 1, none⟩) (.inl rfl) _) (p := ⟨ob, 2, none⟩) (.inl rfl) _) (p := ⟨ob, 3, none⟩) (.inl rfl) _) (p := ⟨ob, 4, none⟩) (.inl rfl) _) (p := ⟨ob, 5, none⟩) (.inl rfl) _) (p := ⟨ob, 6, none⟩) (.inl rfl) _)
    have hx : (((((((w2.setCell ⟨ob, 0, none⟩ (.int .i64 k1)).setCell ⟨ob, 1, none⟩ (.bool neg1)).setCell ⟨ob, 2, none⟩ (.slice A1 n1 c1)).setCell ⟨ob, 3, none⟩ (.int .i64 e1)).setCell ⟨ob, 4, none⟩ (.string t1)).setCell ⟨ob, 5, none⟩ (.slice LA1 ln1 lc1)).setCell ⟨ob, 6, none⟩ (.slice KA1 kn1 kc1)).heap[ob]? = some (.cells #[.int .i64 k1, .bool neg1, .slice A1 n1 c1, .int .i64 e1, .string t1, .slice LA1 ln1 lc1, .slice KA1 kn1 kc1] 34) := by
      have := set_heap (i := 6) (u := .slice KA1 kn1 kc1) (set_heap (i := 5) (u := .slice LA1 ln1 lc1) (set_heap (i := 4) (u := .string t1) (set_heap (i := 3) (u := .int .i64 e1) (set_heap (i := 2) (u := .slice A1 n1 c1) (set_heap (i := 1) (u := .bool neg1) (set_heap (i := 0) (u := .int .i64 k1) HO2.out))))))
      simpa using this
    refine ⟨rfl, HE2.out.stay hC (fun j hj h => by have := HBO.out; omega) (fun h => hos h.symm), (HB2.out.mono (fun _ _ h => .inl h)).trans (hC.mono (fun _ _ h => .inr h)), k1, neg1, A1, n1, c1, e1, t1, LA1, ln1, lc1, KA1, kn1, kc1, hx, ?_⟩
    exact (HVA.out.keep fun p hp => hC.cell hp.2 (fun h => by have := hp.1; omega)).more fun b hb => ⟨hb.1, Nat.lt_of_lt_of_le hb.2 hC.size⟩

@[go_sem] theorem assert_fault (v : Value) (w : World) : (Instr.typeAssert (.iface 59 v) 20 59 true).run Tryz.prog w = .ok (.tuple #[v, .bool true]) w := by kernel_rfl
@[go_sem] theorem assert_nil (w : World) : (Instr.typeAssert .nilIface 20 59 true).run Tryz.prog w = .ok (.tuple #[.agg #[.int .i64 0, .int .i64 0], .bool false]) w := by kernel_rfl
set_option maxRecDepth 100000 in
set_option maxHeartbeats 1000000 in
theorem catch_fault (b : Nat) (q x : Int) (x0 x1 : Value) (older : List PanicEntry) (w : World) (h0 : ∀ o, (w.alloc o).cell? ⟨b, 0, none⟩ = some x0) (h1 : ∀ o, (w.alloc o).cell? ⟨b, 1, none⟩ = some x1) (z0 : ∀ o, (w.alloc o).frozen? ⟨b, 0, none⟩ = false) (z1 : ∀ o, (w.alloc o).frozen? ⟨b, 1, none⟩ = false) :
    CallsD Tryz.prog 34 #[.pointer (some ⟨b, 0, none⟩)] (.panicking ({ v := .iface 59 (.agg #[.int .i64 q, .int .i64 x]), recovered := false } :: older)) w fun e u' w' =>
      e = .returned (.tuple #[]) ∧ u' = .panicking ({ v := .iface 59 (.agg #[.int .i64 q, .int .i64 x]), recovered := true } :: older) ∧
        w' = ((w.alloc (.cells #[.int .i64 q, .int .i64 x] 59)).setCell ⟨b, 0, none⟩ (.int .i64 q)).setCell ⟨b, 1, none⟩ (.int .i64 x) := by
  refine callsD_of_wpS Tryz.func34 rfl fun c₀ cs hu => ?_
  apply wpS_seq
  apply wpS_region
  simp [wpOpsS, go_sem, recoverD, hu, Tryz.ntmps34, Exit.thenS]
  refine wpS_of_wp ?_
  obtain ⟨F, hF⟩ : ∃ F, F = Value.iface 59 (.agg #[.int .i64 q, .int .i64 x]) := ⟨_, rfl⟩
  have ht : (#[Value.pointer (some ⟨b, 0, none⟩)] ++ (((Array.replicate 14 undef).setIfInBounds 3 F).setIfInBounds 0 F)) = #[.pointer (some ⟨b, 0, none⟩), F, undef, undef, F, undef, undef, undef, undef, undef, undef, undef, undef, undef, undef] := rfl
  rw [hF] at ht
  rw [ht]
  go_wp2
  simp_all [bodyPostS, results, Tryz.results34]
set_option maxRecDepth 100000 in
set_option maxHeartbeats 1000000 in
theorem catch_idle (b : Nat) (w : World) :
    CallsD Tryz.prog 34 #[.pointer (some ⟨b, 0, none⟩)] .returning w fun e u' w' => e = .returned (.tuple #[]) ∧ u' = .returning ∧ w' = w.alloc (.cells #[.int .i64 0, .int .i64 0] 59) := by
  refine callsD_of_wpS Tryz.func34 rfl fun c₀ cs hu => ?_
  apply wpS_seq
  apply wpS_region
  simp [wpOpsS, go_sem, recoverD, hu, Tryz.ntmps34, Exit.thenS]
  refine wpS_of_wp ?_
  have ht : (#[Value.pointer (some ⟨b, 0, none⟩)] ++ (((Array.replicate 14 undef).setIfInBounds 3 Value.nilIface).setIfInBounds 0 Value.nilIface)) = #[.pointer (some ⟨b, 0, none⟩), .nilIface, undef, undef, .nilIface, undef, undef, undef, undef, undef, undef, undef, undef, undef, undef] := rfl
  rw [ht]
  go_wp2
  cases c₀
  simp_all [bodyPostS, results, Tryz.results34]

/-- What caught comes to: what its told one comes to; a fault is told, one without an error if there was none. -/
def PoC (B : Nat) (L : List UInt8) (A : Option Addr) (c sb ob N : Nat) (w : World) (r : RR VT) (e : Ending) (w' : World) : Prop :=
  match r with
  | .ok x q => e = .returned (.agg #[.int .i64 0, .int .i64 0]) ∧ Env B L A c sb w' q 0 ∧ But (fun k => k = sb ∨ k = ob) w w' ∧ ∃ k neg A1 n1 c1 e1 t LA1 ln1 lc1 KA1 kn1 kc1, w'.heap[ob]? = some (.cells #[.int .i64 k, .bool neg, .slice A1 n1 c1, .int .i64 e1, .string t, .slice LA1 ln1 lc1, .slice KA1 kn1 kc1] 34) ∧ VIn w' (fun b => N ≤ b ∧ b < w'.heap.size) x [.int .i64 k, .bool neg, .slice A1 n1 c1, .int .i64 e1, .string t, .slice LA1 ln1 lc1, .slice KA1 kn1 kc1]
  | .bad q x => e = .returned (.agg #[.int .i64 (q : Int), .int .i64 (x : Int)]) ∧ But (fun k => k = sb ∨ k = ob) w w'
set_option maxRecDepth 100000 in
set_option maxHeartbeats 2000000 in
theorem caught_c (hv : ValC 64) {B : Nat} {L : List UInt8} {A : Option Addr} {c sb ob : Nat} {w : World} {p : Nat} (E : Env B L A c sb w p 0) (hcap : L.length ≤ c) (hbo : B ≤ ob) (hos : ob ≠ sb)
    (hob : w.heap[ob]? = some (.cells #[.int .i64 0, .bool false, .slice none 0 0, .int .i64 0, .string ⟨#[]⟩, .slice none 0 0, .slice none 0 0] 34)) :
    Calls Tryz.prog 27 #[.func (.func 28) #[] #[ptr sb, ptr ob]] w (PoC B L A c sb ob w.heap.size w (rValue mkObj 64 1 L p)) := by
  have hmf : ∀ (fn : Fn) (first cap : Array Value) (w : World), (Instr.makeFunc fn first cap).run Tryz.prog w = .ok (.func fn first cap) w := fun _ _ _ _ => rfl
  obtain ⟨R, hR⟩ : ∃ R, rValue mkObj 64 1 L p = R := ⟨_, rfl⟩
  rw [hR]
  obtain ⟨mb, hmb⟩ : ∃ b, w.heap.size = b := ⟨_, rfl⟩
  have hb0 := (But.refl (fun _ => False) w).alloc (.cells #[.int .i64 0, .int .i64 0] 59)
  have hm0 := World.alloc_heap_new w (.cells #[.int .i64 0, .int .i64 0] 59)
  have hs0 : (w.alloc (.cells #[.int .i64 0, .int .i64 0] 59)).heap.size = mb + 1 := by rw [World.size_alloc, hmb]
  have ho0 := (hb0.block ob (Array.getElem?_eq_some_iff.1 hob).1 (fun h => h)).trans hob
  have hc := next1_c hv (E.stay hb0 (fun _ _ h => h) (fun h => h)) hcap hbo hos ho0
  rw [hR] at hc
  rw [hmb] at hm0
  have hol := (Array.getElem?_eq_some_iff.1 hob).1
  have hsl := E.lt
  rw [hs0] at hc
  rw [hmb] at hol hsl
  have HC := Lib.hid hc
  have HM0 := Lib.hid hm0
  have HB0 := Lib.hid hb0
  have HMB := Lib.hid hmb
  have HBO := Lib.hid hbo
  have HBS := Lib.hid E.base
  clear hc hm0 hb0 ho0 hob E hR
  go_enter_defers Tryz.func27, Tryz.ntmps27
  go_wp2_with fail
  try rw [hmb]
  clear hmb
  generalize (w.alloc (.cells #[.int .i64 0, .int .i64 0] 59)) = w0 at *
  refine HC.out.mono ?_
  intro e w2 hp
  cases R with
  | bad q x =>
    obtain ⟨rfl, hb⟩ := hp
    have hm2 := (hb.block mb (Array.getElem?_eq_some_iff.1 HM0.out).1 (by omega)).trans HM0.out
    have h0 : ∀ o, (w2.alloc o).cell? ⟨mb, 0, none⟩ = some (.int .i64 0) := fun o => ((But.refl (fun _ => False) w2).alloc o).cell_some (cell_at3 (i := 0) hm2 rfl) (fun h => h)
    have h1 : ∀ o, (w2.alloc o).cell? ⟨mb, 1, none⟩ = some (.int .i64 0) := fun o => ((But.refl (fun _ => False) w2).alloc o).cell_some (cell_at3 (i := 1) hm2 rfl) (fun h => h)
    have hmo : ∀ o, (w2.alloc o).heap[mb]? = some (.cells #[.int .i64 0, .int .i64 0] 59) := fun o => (Below.heap_alloc w2 o mb (Array.getElem?_eq_some_iff.1 hm2).1).trans hm2
    have z0 : ∀ o, (w2.alloc o).frozen? ⟨mb, 0, none⟩ = false := fun o => by simp only [World.frozen?, hmo o]; rfl
    have z1 : ∀ o, (w2.alloc o).frozen? ⟨mb, 1, none⟩ = false := fun o => by simp only [World.frozen?, hmo o]; rfl
    have HB := Lib.hid hb
    have HM := Lib.hid (set_heap (i := 1) (u := .int .i64 (x : Int)) (set_heap (i := 0) (u := .int .i64 (q : Int)) (hmo (.cells #[.int .i64 (q : Int), .int .i64 (x : Int)] 59))))
    clear hm2 hb hmo
    go_wp2_with fail
    refine leaves_cons (f := 34) (args := #[.pointer (some ⟨mb, 0, none⟩)]) (by simp) (by simp [go_sem]) ?_
    refine (catch_fault mb q x (.int .i64 0) (.int .i64 0) [] w2 h0 h1 z0 z1).mono ?_
    rintro e u' w'' ⟨rfl, rfl, rfl⟩
    have hbf : But (fun k => k = sb ∨ k = ob) w (((w2.alloc (.cells #[.int .i64 (q : Int), .int .i64 (x : Int)] 59)).setCell ⟨mb, 0, none⟩ (.int .i64 (q : Int))).setCell ⟨mb, 1, none⟩ (.int .i64 (x : Int))) :=
      But.setCell (p := ⟨mb, 1, none⟩) (But.setCell (p := ⟨mb, 0, none⟩) ((HB0.out.no.trans HB.out).alloc _) (.inr (by have := HMB.out; show _ ≤ mb; omega)) _) (.inr (by have := HMB.out; show _ ≤ mb; omega)) _
    have hm := HM.out
    clear h0 h1 z0 z1
    generalize (((w2.alloc (.cells #[.int .i64 (q : Int), .int .i64 (x : Int)] 59)).setCell ⟨mb, 0, none⟩ (.int .i64 (q : Int))).setCell ⟨mb, 1, none⟩ (.int .i64 (x : Int))) = w6 at *
    have hm2 : w6.heap[mb]? = some (.cells #[.int .i64 (q : Int), .int .i64 (x : Int)] 59) := by simpa using hm
    have y0 := cell_at3 (i := 0) hm2 rfl
    have y1 := cell_at3 (i := 1) hm2 rfl
    simp [Leaves, settle, results, Tryz.results27, go_sem, y0, y1]
    exact ⟨rfl, hbf⟩
  | ok x q =>
    obtain ⟨rfl, hE2, hb2, hrest⟩ := hp
    have hm2 := (hb2.block mb (Array.getElem?_eq_some_iff.1 HM0.out).1 (by omega)).trans HM0.out
    have x0 := cell_at3 (i := 0) hm2 rfl
    have x1 := cell_at3 (i := 1) hm2 rfl
    have f0 : w2.frozen? ⟨mb, 0, none⟩ = false := by simp [World.frozen?, hm2]
    have f1 : w2.frozen? ⟨mb, 1, none⟩ = false := by simp [World.frozen?, hm2]
    have HM2 := Lib.hid hm2
    have HE2 := Lib.hid hE2
    have HB2 := Lib.hid hb2
    have HRS := Lib.hid hrest
    clear hm2 hE2 hb2 hrest
    go_wp2_with fail
    refine leaves_cons (f := 34) (args := #[.pointer (some ⟨mb, 0, none⟩)]) (by simp) (by simp [go_sem]) ?_
    refine (catch_idle mb _).mono ?_
    rintro e u' w'' ⟨rfl, rfl, rfl⟩
    have hC : But (fun k => k = mb) w2 (((w2.setCell ⟨mb, 0, none⟩ (.int .i64 0)).setCell ⟨mb, 1, none⟩ (.int .i64 0)).alloc (.cells #[.int .i64 0, .int .i64 0] 59)) :=
      (But.setCell (C := fun k => k = mb) (p := ⟨mb, 1, none⟩) (But.setCell (C := fun k => k = mb) (p := ⟨mb, 0, none⟩) (But.refl _ _) (.inl rfl) _) (.inl rfl) _).alloc _
    have hm6 : (((w2.setCell ⟨mb, 0, none⟩ (.int .i64 0)).setCell ⟨mb, 1, none⟩ (.int .i64 0)).alloc (.cells #[.int .i64 0, .int .i64 0] 59)).heap[mb]? = some (.cells #[.int .i64 0, .int .i64 0] 59) := by
      rw [Below.heap_alloc _ _ _ (by simp [World.setCell]; exact (Array.getElem?_eq_some_iff.1 HM2.out).1)]
      have := set_heap (i := 1) (u := .int .i64 0) (set_heap (i := 0) (u := .int .i64 0) HM2.out)
      simpa using this
    clear x0 x1 f0 f1
    generalize (((w2.setCell ⟨mb, 0, none⟩ (.int .i64 0)).setCell ⟨mb, 1, none⟩ (.int .i64 0)).alloc (.cells #[.int .i64 0, .int .i64 0] 59)) = w6 at *
    have y0 := cell_at3 (i := 0) hm6 rfl
    have y1 := cell_at3 (i := 1) hm6 rfl
    simp [Leaves, settle, results, Tryz.results27, go_sem, y0, y1]
    obtain ⟨k1, neg1, A1, n1, c1, e1, t1, LA1, ln1, lc1, KA1, kn1, kc1, hbx, hvn⟩ := HRS.out
    refine ⟨rfl, HE2.out.stay hC (fun j hj h => by have := HBS.out; omega) (fun h => by omega), ⟨hC.os.trans (HB0.out.no.trans HB2.out).os, hC.tape.trans (HB0.out.no.trans HB2.out).tape, hC.output.trans (HB0.out.no.trans HB2.out).output, Nat.le_trans (HB0.out.no.trans HB2.out).size hC.size, fun j hj hc => (hC.block j (Nat.lt_of_lt_of_le hj (HB0.out.no.trans HB2.out).size) (fun h => by have := HMB.out; omega)).trans ((HB0.out.no.trans HB2.out).block j hj hc)⟩,
      k1, neg1, A1, n1, c1, e1, t1, LA1, ln1, lc1, KA1, kn1, kc1, (hC.block ob (Array.getElem?_eq_some_iff.1 hbx).1 (fun h => by omega)).trans hbx, ?_⟩
    have HMB2 := HMB.out
    exact (hvn.keep fun p hp => hC.cell hp.2 (fun h => by have := hp.1; omega)).more fun b hb => ⟨by have := hb.1; omega, Nat.lt_of_lt_of_le hb.2 hC.size⟩
end Go.Proofs.YtpjllcengnolkaaGreatDoor
