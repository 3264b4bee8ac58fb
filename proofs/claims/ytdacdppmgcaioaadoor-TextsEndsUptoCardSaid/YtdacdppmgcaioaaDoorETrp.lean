/-
  Contract of Repeat.
-/
import Derived.Test.YtdacdppmgcaioaaDoorETbe
set_option linter.unusedVariables false
set_option linter.unusedSimpArgs false
namespace Go.Proofs.YtdacdppmgcaioaaDoor
open Go.RowKit Go.Lib

/-- So often. -/
def repT : Nat → List UInt8 → List UInt8
  | 0, _ => []
  | n + 1, L => repT n L ++ L
theorem repT_len (n : Nat) (L : List UInt8) : (repT n L).length = n * L.length := by
  induction n with
  | zero => simp [repT]
  | succ n ih => rw [repT, List.length_append, ih, Nat.succ_mul]
/-- How often Repeat writes. -/
def timesT (n : Int) : Int := if (16385 : Int) < n then 16385 else n
theorem timesT_le (n : Int) : timesT n ≤ 16385 := by unfold timesT; split <;> omega
set_option maxHeartbeats 2000000 in
set_option maxRecDepth 100000 in
theorem repeat1_c {B b1 b2 : Nat} (s : ByteArray) (n : Int) (w : World) (hs : s.size ≤ 140737488355328) (h1 : w.heap[b1]? = some (.cells #[.int .i64 n] 3)) (h2 : w.heap[b2]? = some (.cells #[.string s] 9)) (hb1 : b1 < B) (hb2 : b2 < B) (hBw : B ≤ w.heap.size) :
    Puts 62 #[.pointer (some ⟨b1, 0, none⟩), .pointer (some ⟨b2, 0, none⟩)] B w (repT (timesT n).toNat s.data.toList) := by
  intro pb W hp hS hb
  have c1 : W.cell? ⟨b1, 0, none⟩ = some (.int .i64 n) := (hb.cell (p := ⟨b1, 0, none⟩) hb1).trans (cellT h1 rfl)
  have c2 : W.cell? ⟨b2, 0, none⟩ = some (.string s) := (hb.cell (p := ⟨b2, 0, none⟩) hb2).trans (cellT h2 rfl)
  have hBW : B ≤ W.heap.size := by have := hb.size; omega
  have hput := fun (out : List UInt8) (V : World) (hV : Sh B pb out V) (hz : B ≤ V.heap.size) => put_c V hV s hs hz
  obtain ⟨K, hK⟩ : ∃ K, timesT n = K := ⟨_, rfl⟩
  have hmin : (if (16385 : Int) < n then (16385 : Int) else n) = K := hK
  have hKle := timesT_le n
  rw [hK] at hKle ⊢
  have HP := Lib.hid hput
  have HS := Lib.hid hS
  have HC2 := Lib.hid c2
  clear hS hput h1 h2 hb hK c2
  go_enter Tryd.func62, Tryd.ntmps62
  go_wp2_with fail
  go_loopw [6] (fun iv wr => ∃ i : Nat, (i ≤ K.toNat) ∧ iv = .int .i64 (i : Int) ∧ Hid (Sh B pb (repT i s.data.toList) wr) ∧ Hid (Mid B (fun k => B ≤ k) W wr)) (fun iv _ => K.toNat - (RowKit.intOf iv).toNat)
  case atStart => exact ⟨0, Nat.zero_le _, rfl, HS.out, Mid.refl _ _ _⟩
  case round =>
    obtain ⟨i, hin, rfl, hSh, hM⟩ := hrel
    by_cases hi : (i : Int) < K
    · have hiw : IntKind.i64.wrap ((i : Int) + 1) = (i : Int) + 1 := IntWalk.i64_in _ (by omega)
      have hbel : Below B W wr := hM.out.below hBW (fun k hk h => by omega)
      have d2 : wr.cell? ⟨b2, 0, none⟩ = some (.string s) := (hbel.cell (p := ⟨b2, 0, none⟩) hb2).trans HC2.out
      have hpw := HP.out _ wr hSh.out (by have := hM.out.size; omega)
      have HPW := Lib.hid hpw
      have HM := Lib.hid hM.out
      clear hpw hbel hSh hM
      go_wp2_with fail
      refine HPW.out.mono ?_
      rintro e w1 ⟨rfl, hS1, hM1⟩
      have HS1 := Lib.hid hS1
      have HM1 := Lib.hid (HM.out.trans (mid_loose hM1 hp))
      clear hS1 hM1
      go_wp2_with fail
      go_roundw
      case rel => exact ⟨i + 1, by omega, by go_num, HS1.out, HM1.out⟩
      case measure => simp [RowKit.intOf]; omega
    · have HSS := Lib.hid hSh.out
      have HM := Lib.hid hM.out
      have hiK : i = K.toNat := by omega
      clear hSh hM
      go_wp2_with fail
      first | go_end0 | refine bodyPost_ret (results_none rfl _ _ _) rfl ?_
      exact ⟨rfl, by rw [← hiK]; exact HSS.out, HM.out⟩
set_option maxHeartbeats 1000000 in
set_option maxRecDepth 100000 in
theorem Repeat_c (s : ByteArray) (n : Int) (w : World) (hT : Tabs w) (hs : s.size ≤ 140737488355328) :
    Calls Tryd.prog 30 #[.string s, .int .i64 n] w fun e w' => e = .returned (.tuple #[.string (wrote [s] (repT (timesT n).toNat s.data.toList)).1, .int .i64 (wrote [s] (repT (timesT n).toNat s.data.toList)).2]) ∧ Below w.heap.size w w' := by
  obtain ⟨q, hq⟩ : ∃ q, w.heap.size = q := ⟨_, rfl⟩
  obtain ⟨w2, hw2⟩ : ∃ w2, (w.alloc (.cells #[.string s] 9)).alloc (.cells #[.int .i64 n] 3) = w2 := ⟨_, rfl⟩
  have hb2 : Below q w w2 := by
    rw [← hw2, ← hq]
    exact ((Below.refl _ w).alloc (Nat.le_refl _) _).alloc (by simp) _
  have hs2 : w2.heap.size = q + 2 := by rw [← hw2]; simp [hq]
  have k1 : w2.heap[q]? = some (.cells #[.string s] 9) := by
    rw [← hw2, Below.heap_alloc _ _ _ (by simp; omega), ← hq]; exact World.alloc_heap_new _ _
  have k2 : w2.heap[q + 1]? = some (.cells #[.int .i64 n] 3) := by
    rw [← hw2]
    have := World.alloc_heap_new (w.alloc (.cells #[.string s] 9)) (.cells #[.int .i64 n] 3)
    rwa [World.size_alloc, hq] at this
  have hT2 : Tabs w2 := hT.below (hq ▸ hb2)
  have hn2 : Below w2.heap.size w2 (w2.alloc (.cells #[.string s] 9)) := (Below.refl _ w2).alloc (Nat.le_refl _) _
  have hwr := written_c (fn := 62) (caps := #[.pointer (some ⟨q + 1, 0, none⟩), .pointer (some ⟨q, 0, none⟩)]) (c := 1) (w2.alloc (.cells #[.string s] 9)) (hT2.below hn2) (rdx1 w2 s) (by intro x hx; simp at hx; subst hx; omega) (by simp) (fun ar W => by kernel_rfl)
    (fun _ => repeat1_c s n _ hs ((hn2.block _ (by omega)).trans k2) ((hn2.block _ (by omega)).trans k1) (by rw [World.size_alloc]; omega) (by rw [World.size_alloc]; omega) (Nat.le_refl _))
  have c1 : w2.cell? ⟨q, 0, none⟩ = some (.string s) := cellT k1 rfl
  have HB2 := Lib.hid (hb2.trans (hn2.mono (by omega)))
  have HW := Lib.hid hwr
  have HSZ := Lib.hid hs2
  clear hb2 hs2 k1 k2 hT2 hn2 hwr hT
  go_enter Tryd.func30, Tryd.ntmps30
  go_upto_region 1 with fail
  try rw [hq]
  try rw [hw2]
  have HQ := Lib.hid hq
  clear hq hw2
  go_wp2_with fail
  refine HW.out.mono ?_
  rintro e w3 ⟨rfl, hb3⟩
  have HB3 := Lib.hid (HB2.out.trans (hb3.mono (by rw [World.size_alloc, HSZ.out]; omega)))
  clear hb3
  go_wp2_with fail
  go_ret2
  exact ⟨rfl, by rw [HQ.out]; exact HB3.out⟩
end Go.Proofs.YtdacdppmgcaioaaDoor
