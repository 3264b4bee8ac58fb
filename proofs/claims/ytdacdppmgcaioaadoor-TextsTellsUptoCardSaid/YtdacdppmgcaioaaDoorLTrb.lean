/-
  The reference: Checks, whole, begins, ends, Begins, Ends, TrimLeft, TrimRight.
-/
import Derived.Test.YtdacdppmgcaioaaDoorLTsiw
import Derived.Test.YtdacdppmgcaioaaDoorLTss
import Derived.Lib.ConvBytes
import Derived.Laws.BytesArg
import Derived.Laws.IdiomStrings
set_option linter.unusedVariables false
set_option linter.unusedSimpArgs false
namespace Go.Proofs.YtdacdppmgcaioaaDoor
open Go.RowKit Go.Lib

set_option maxHeartbeats 2000000 in
set_option maxRecDepth 100000 in
theorem rChecks_c {A : Option Addr} {c : Nat} {xs : List ByteArray} (w : World) (hx : RdX w w.heap.size A xs) (hs : ∀ x ∈ xs, x.size ≤ 140737488355328) (hn : xs.length ≤ 9223372036854775806) :
    Calls Tryd.prog 41 #[.slice A xs.length c] w fun e w' => e = .returned (.int .i64 (errX xs : Int)) ∧ Below w.heap.size w w' := by
  obtain ⟨B, hB⟩ : ∃ B, w.heap.size = B := ⟨_, rfl⟩
  obtain ⟨n, hnl⟩ : ∃ n, xs.length = n := ⟨_, rfl⟩
  rw [hB] at hx ⊢
  rw [hnl] at hn ⊢
  have HX := Lib.hid hx
  have HS := Lib.hid hs
  have HB := Lib.hid hB
  have HN := Lib.hid hnl
  clear hx hs hB hnl
  go_enter Tryd.func41, Tryd.ntmps41
  go_wp2_with fail
  go_loopw [3] (fun iv wr => ∃ i : Nat, i ≤ n ∧ iv = .int .i64 (i : Int) ∧ Hid (∀ x ∈ xs.take i, isT x.data.toList = true) ∧ Hid (Below B w wr) ∧ Hid (B ≤ wr.heap.size)) (fun iv _ => n - (RowKit.intOf iv).toNat)
  case atStart => exact ⟨0, Nat.zero_le _, rfl, by show ∀ x ∈ xs.take 0, _; simp, Below.refl _ _, by show B ≤ _; rw [HB.out]; omega⟩
  case round =>
    obtain ⟨i, hin, rfl, hok, hbel, hsz⟩ := hrel
    by_cases hi : i < n
    · have hilt : (i : Int) < (n : Int) := by omega
      have hi0 : (0 : Int) ≤ (i : Int) := by omega
      have hit : ((i : Int)).toNat = i := by omega
      have hiw : IntKind.i64.wrap ((i : Int) + 1) = (i : Int) + 1 := IntWalk.i64_in _ (by omega)
      obtain ⟨x, hxi⟩ : ∃ x, xs[i]? = some x := ⟨_, List.getElem?_eq_getElem (by rw [HN.out]; exact hi)⟩
      obtain ⟨g, off, rfl, hg, hc⟩ := HX.out i x hxi
      have d0 : wr.cell? ⟨g, off + i, none⟩ = some (.string x) := (hbel.out.cell (p := ⟨g, off + i, none⟩) hg).trans hc
      have hmem : x ∈ xs := List.mem_of_getElem? hxi
      have huc := rcheck_s x wr (HS.out x hmem)
      have hE := errT_cases x.data.toList
      obtain ⟨E, hEE⟩ : ∃ E, errT x.data.toList = E := ⟨_, rfl⟩
      obtain ⟨Q, hQ⟩ : ∃ Q, badAt x.data.toList = Q := ⟨_, rfl⟩
      rw [hEE, hQ] at huc
      rw [hEE] at hE
      have htk : xs.take (i + 1) = xs.take i ++ [x] := by rw [List.take_add_one, hxi]; rfl
      have HTK := Lib.hid htk
      have HM := Lib.hid hmem
      have HU := Lib.hid huc
      have HOK := Lib.hid hok.out
      have HBE := Lib.hid hbel.out
      have HSZ := Lib.hid hsz.out
      clear htk hmem huc hok hbel hsz hc hxi hEE hQ
      rcases hE with ⟨rfl, hgood⟩ | ⟨rfl, hbad⟩
      · have HG := Lib.hid hgood
        clear hgood
        go_wp2_with fail
        refine HU.out.mono ?_
        rintro e w1 ⟨rfl, hb1⟩
        have HB1 := Lib.hid (HBE.out.trans (hb1.mono HSZ.out))
        have HSZ1 := Lib.hid (Nat.le_trans HSZ.out hb1.size)
        clear hb1 d0
        go_wp2_with fail
        go_roundw
        case rel =>
          refine ⟨i + 1, by omega, by go_num, ?_, HB1.out, HSZ1.out⟩
          show ∀ y ∈ xs.take (i + 1), _
          rw [HTK.out]
          intro y hy
          rcases List.mem_append.1 hy with hy | hy
          · exact HOK.out y hy
          · rw [show y = x by simpa using hy]; exact HG.out
        case measure => simp [RowKit.intOf]; omega
      · have HG := Lib.hid hbad
        clear hbad
        go_wp2_with fail
        refine HU.out.mono ?_
        rintro e w1 ⟨rfl, hb1⟩
        have HB1 := Lib.hid (HBE.out.trans (hb1.mono HSZ.out))
        clear hb1 d0
        go_wp2_with fail
        go_ret
        exact ⟨by rw [errX_no HM.out HG.out]; rfl, HB1.out⟩
    · have hni : ¬ (i : Int) < (n : Int) := by omega
      have hall : errX xs = 0 := errX_ok (by
        have := hok.out
        rwa [show i = n by omega, ← HN.out, List.take_length] at this)
      have HA := Lib.hid hall
      have HBE := Lib.hid hbel.out
      clear hall hok hbel
      go_wp2_with fail
      go_ret
      exact ⟨by rw [HA.out]; rfl, HBE.out⟩
theorem rChecks2_c (s t : ByteArray) (w : World) (hs : s.size ≤ 140737488355328) (ht : t.size ≤ 140737488355328) :
    Calls Tryd.prog 41 #[.slice (some ⟨w.heap.size, 0, none⟩) 2 2] (two w s t) fun e w' => e = .returned (.int .i64 (errX [s, t] : Int)) ∧ Below w.heap.size w w' := by
  have h := rChecks_c (c := 2) (two w s t) (rdx2 w s t) (by intro x hx; simp at hx; rcases hx with rfl | rfl <;> assumption) (by simp)
  refine h.mono fun e w' ⟨he, hb⟩ => ⟨he, ?_⟩
  have h1 : Below w.heap.size w (two w s t) := (Below.refl _ w).alloc (Nat.le_refl _) _
  exact h1.trans (hb.mono (by rw [World.size_alloc]; omega))
theorem rChecks1_c (s : ByteArray) (w : World) (hs : s.size ≤ 140737488355328) :
    Calls Tryd.prog 41 #[.slice (some ⟨w.heap.size, 0, none⟩) 1 1] (w.alloc (.cells #[.string s] 9)) fun e w' => e = .returned (.int .i64 (errX [s] : Int)) ∧ Below w.heap.size w w' := by
  have h := rChecks_c (c := 1) (w.alloc (.cells #[.string s] 9)) (rdx1 w s) (by intro x hx; simp at hx; subst hx; exact hs) (by simp)
  refine h.mono fun e w' ⟨he, hb⟩ => ⟨he, ?_⟩
  have h1 : Below w.heap.size w (w.alloc (.cells #[.string s] 9)) := (Below.refl _ w).alloc (Nat.le_refl _) _
  exact h1.trans (hb.mono (by rw [World.size_alloc]; omega))

/-- Octets in memory. -/
def RdO (w : World) (A : Option Addr) (L : List UInt8) : Prop := ∀ k x, L[k]? = some x → ∃ g off, A = some ⟨g, off, none⟩ ∧ w.cell? ⟨g, off + k, none⟩ = some (.int .u8 (x.toNat : Int))
theorem conv_o {w : World} {A : Option Addr} {c : Nat} {L : List UInt8} (h : RdO w A L) : (convert 62 9 (.slice A L.length c)).run Tryd.prog w = .ok (.string ⟨L.toArray⟩) w := by
  cases A with
  | none =>
    have hL : L = [] := by
      cases L with
      | nil => rfl
      | cons x r => obtain ⟨g, off, e, -⟩ := h 0 x rfl; cases e
    subst hL
    exact run_convert_bytes_nil (P := Tryd.prog) (w := w) 62 5 Tryd.underlying62 Tryd.underlying5 0 c 9 Tryd.underlying9
  | some ad =>
    refine run_convert_bytes_back w 62 9 5 ad c L Tryd.underlying62 Tryd.underlying5 Tryd.underlying9 (fun j hj => ?_)
    obtain ⟨g, off, e, hc⟩ := h j L[j] (List.getElem?_eq_getElem hj)
    injection e with e
    subst e
    by_cases h0 : j = 0
    · subst h0; simpa [Addr.add] using hc
    · simpa [Addr.add, h0] using hc
theorem whole_c {A : Option Addr} {c : Nat} {L : List UInt8} (w : World) (h : RdO w A L) :
    Calls Tryd.prog 42 #[.slice A L.length c] w fun e w' => e = .returned (.tuple #[.string (tell L).1, .int .i64 (tell L).2]) ∧ w' = w := by
  have hcv := conv_o (c := c) h
  clear h
  by_cases hl : L.length ≤ 16384
  · rw [tell_ok hl]
    have hlI : ¬ (16384 : Int) < (L.length : Int) := by omega
    obtain ⟨n, hn⟩ : ∃ n, L.length = n := ⟨_, rfl⟩
    obtain ⟨R, hR⟩ : ∃ R : ByteArray, (⟨L.toArray⟩ : ByteArray) = R := ⟨_, rfl⟩
    rw [hn] at hcv hlI ⊢
    rw [hR] at hcv ⊢
    clear hn hR hl
    go_enter Tryd.func42, Tryd.ntmps42
    go_wp2_with fail
    go_ret2
    exact ⟨rfl, rfl⟩
  · rw [tell_no (by omega)]
    have hlI : (16384 : Int) < (L.length : Int) := by omega
    clear hcv
    go_enter Tryd.func42, Tryd.ntmps42
    go_wp2_with fail
    go_ret2
    exact ⟨rfl, rfl⟩
theorem rdo_own {w : World} {B n : Nat} {A : Option Addr} {c : Nat} {L : List UInt8} (h : w.ownsRow B 5 1 (.slice A n c) n (byteCells L)) (hn : n = L.length) : RdO w A L := by
  subst hn
  intro k x hx
  rcases h.2 with ⟨e, h0⟩ | ⟨g, cap, cur, e, -⟩
  · have := (List.getElem?_eq_some_iff.1 hx).1
    omega
  · injection e with e1 e2 e3
    subst e1
    refine ⟨g, 0, rfl, ?_⟩
    have := h.cells (g := g) rfl k (.int .u8 x.toNat) (by simp [byteCells, hx])
    by_cases h0 : k = 0
    · subst h0; simpa [Addr.add] using this
    · simpa [Addr.add, h0] using this
theorem rdo_conv (W : World) (S : ByteArray) : RdO (Go.Lib.bytesWorld W 5 S) (some ⟨W.heap.size, 0, none⟩) S.data.toList := fun k x hx => by
  refine ⟨W.heap.size, 0, rfl, ?_⟩
  have hk := (List.getElem?_eq_some_iff.1 hx).1
  have := Go.Lib.bytesWorld_cell W 5 S k (by rw [sizeT_list]; exact hk)
  rw [Nat.zero_add, this, List.getD_eq_getElem?_getD, hx]
  rfl
theorem bytesBelowT (W : World) (S : ByteArray) : Below W.heap.size W (Go.Lib.bytesWorld W 5 S) := by
  refine ⟨?_, ?_, ?_, by rw [Go.Lib.bytesWorld_size]; omega, fun k hk => Go.Lib.bytesWorld_at_old W 5 S k hk⟩ <;>
  · simp [Go.Lib.bytesWorld, World.freeze, World.alloc, World.drew, -World.alloc_eq, -World.drew_eq]
end Go.Proofs.YtdacdppmgcaioaaDoor
