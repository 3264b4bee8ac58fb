/-
  The table of bits that the length of a number is told by, as printer's rows list it.
  The tables of the library that printer's rows list.
  How great a text is that a row's second form lists.
  Contracts of the page's line and key.
-/
import Derived.Test.YtcanfiaooabocaaGreatDoorQWtx
import Derived.Test.YtcanfiaooabocaaGreatDoorRows
import Derived.Lib.LaidTab
import Derived.Lib.LaidU8
import Derived.MakeChecks
import Derived.Test.YtcanfiaooabocaaGreatDoorQNlimb
import Derived.Test.YtcanfiaooabocaaGreatDoorCards
set_option linter.unusedVariables false
set_option linter.unusedSimpArgs false
namespace Go.Proofs.YtcanfiaooabocaaGreatDoor
open Go.RowKit

def deb64 : List Int := [0, 1, 56, 2, 57, 49, 28, 3, 61, 58, 42, 50, 38, 29, 17, 4, 62, 47, 59, 36, 45, 43, 51, 22, 53, 39, 33, 30, 24, 18, 12, 5, 63, 55, 48, 27, 60, 41, 37, 16, 46, 35, 44, 21, 52, 32, 23, 11, 54, 26, 40, 15, 34, 20, 31, 10, 25, 14, 19, 9, 13, 8, 7, 6]
theorem deb_global : Tryz.prog.globalNamed "math/bits.deBruijn64tab" = some 5 := by kernel_rfl
theorem deb_of {W : World} {laid : List (String × DataW Unit)} (hL : laidMetH Tryz.prog laid W) (h0 : (laid.all fun x => x.2.handleName?.isNone) = true) (h1 : ("math/bits.deBruijn64tab", Rows.laid_math_bits_deBruijn64tab) ∈ laid) : W.cell? ⟨5, 15, none⟩ = some (.int .u8 4) := by
  rw [MakeChecks.laidMetH_plain _ _ _ h0] at hL
  obtain ⟨g, t, cs, fuel, p, hg, ht, hv, hd⟩ := Lib.laidMet.reads hL h1
  have hg2 : g = 5 := by rw [deb_global] at hg; injection hg with hg; exact hg.symm
  subst hg2
  have ht2 : t = 194 := by
    have h2 : (Tryz.prog.globals[(5 : Nat)]?).map (·.type) = some 194 := by kernel_rfl
    rw [h2] at ht
    injection ht with ht
    exact ht.symm
  subst ht2
  have e : (Rows.laid_math_bits_deBruijn64tab : DataW Unit) = Lib.tabData .u8 deb64 := by kernel_rfl
  rw [e] at hd
  have h9 := Lib.cells_of_tab (e := 5) (n := 64) (by kernel_rfl) (by kernel_rfl) (by kernel_rfl) (by kernel_rfl) hd
  unfold World.var? at hv
  rw [deb_global] at hv
  simp only [Option.bind_some] at hv
  have h15 : cs[15]? = some (.int .u8 4) := by rw [← Array.getElem?_toList, h9]; rfl
  split at hv
  · rename_i cs2 el fr hh
    injection hv with hv
    subst hv
    rw [Lib.cell_of_heap hh]
    exact h15
  · cases hv
end Go.Proofs.YtcanfiaooabocaaGreatDoor

namespace Go.Proofs.YtcanfiaooabocaaGreatDoor
open Go.ChangeShapes Go.WideShapes Go.ChangeAt Go.RowKit

theorem gl_of {W : World} {laid : List (String × DataW Unit)} (hL : laidMetH Tryz.prog laid W) (h0 : (laid.all fun x => x.2.handleName?.isNone) = true) (h1 : ("math/bits.deBruijn64tab", Rows.laid_math_bits_deBruijn64tab) ∈ laid) (h2 : ("internal/strconv.uint64pow10", Rows.laid_internal_strconv_uint64pow10) ∈ laid)
    (h3 : ("unicode/utf8.first", Rows.laid_unicode_utf8_first) ∈ laid) (h4 : ("unicode/utf8.acceptRanges", Rows.laid_unicode_utf8_acceptRanges) ∈ laid) : Gl W.heap.size W := by
  have hd := deb_of hL h0 h1
  have ht := tab10_of hL h0 h2
  have hT := tabs_of hL h0 h3 h4
  refine ⟨hT, ht, hd, cell_lt (hT.1 0 (by omega)), cell_lt (hT.2 0 (by omega)).1, ?_, cell_lt hd⟩
  unfold Tab10 Lib.TabIs World.var? at ht
  rw [pow_global] at ht
  simp only [Option.bind_some] at ht
  rcases Nat.lt_or_ge (3 : Nat) W.heap.size with h' | h'
  · exact h'
  · rw [Array.getElem?_eq_none h'] at ht; cases ht
end Go.Proofs.YtcanfiaooabocaaGreatDoor

namespace Go.Proofs.YtcanfiaooabocaaGreatDoor
open Go.ChangeShapes Go.WideShapes Go.ChangeAt Go.RowKit

theorem bulkT_mem {H : Type} {d : DataW H} : ∀ {l : List (DataW H)}, d ∈ l → Rows.uptoSmall H l = true → Rows.uptoBulk d ≤ 1048576 := by
  intro l h hk
  have hb : Rows.uptoBulkAll l ≤ 1048576 := of_decide_eq_true hk
  have hle : Rows.uptoBulk d ≤ Rows.uptoBulkAll l := by
    clear hk hb
    induction l with
    | nil => cases h
    | cons x r ih =>
      simp only [Rows.uptoBulkAll]
      rcases List.mem_cons.1 h with rfl | h
      · omega
      · have := ih h; omega
  omega
theorem bulkT_string {H : Type} {b : List UInt8} {l : List (DataW H)} (h : DataW.lit (.string b) ∈ l) (hk : Rows.uptoSmall H l = true) : b.length ≤ 1048576 := by
  have := bulkT_mem h hk
  simp only [Rows.uptoBulk] at this
  omega
end Go.Proofs.YtcanfiaooabocaaGreatDoor

namespace Go.Proofs.YtcanfiaooabocaaGreatDoor
open Go.RowKit Go.Lib

/-- The two ways in which characters stand. -/
def Md (F : Value) (qc : Int → List UInt8) : Prop := (F = plainF ∧ qc = quoteC) ∨ (F = asciiF ∧ qc = quoteA)
theorem ptext_c {F : Value} {qc : Int → List UInt8} (hM : Md F qc) {B pb : Nat} {bs : List UInt8} {room st o : Nat} (w : World) (hP : Pg B pb bs room st o F w) (hG : Gl B w) (hB : B ≤ w.heap.size) (s : ByteArray) (hT : isT s.data.toList = true) (hs : s.size ≤ 140737488355328)
    (hcap : bs.length + (txtL qc s).length ≤ 140737488355328 ∨ bs.length + room ≤ 140737488355328) :
    Calls Tryz.prog 37 #[pgP pb, .string s] w (Wr B pb bs room st o F w (txtL qc s)) := by
  rcases hM with ⟨rfl, rfl⟩ | ⟨rfl, rfl⟩
  · exact textP_c w hP hG hB s hT hs hcap
  · exact textA_c w hP hG hB s hT hs hcap

theorem repeat_one : ∀ n, Lib.repeatL [32] n = List.replicate n (32 : UInt8)
  | 0 => rfl
  | n + 1 => by
    show [32] ++ Lib.repeatL [32] n = _
    rw [repeat_one n]; rfl
theorem Wr.nil {B pb : Nat} {bs : List UInt8} {room st o : Nat} {F : Value} {w : World} (hP : Pg B pb bs room st o F w) : Wr B pb bs room st o F w [] (.returned (.tuple #[])) w :=
  .inl ⟨Nat.zero_le _, rfl, by simpa using hP, Soft.refl _ _ _⟩
set_option maxRecDepth 100000 in
set_option maxHeartbeats 2000000 in
theorem line_c {B pb : Nat} {bs : List UInt8} {room st o : Nat} {F : Value} (w : World) (hP : Pg B pb bs room st o F w) (hB : B ≤ w.heap.size) (hst : st ≤ 8) (ho : o ≤ 1000) (hcap : bs.length + room ≤ 140737488355328) :
    Calls Tryz.prog 75 #[pgP pb] w (Wr B pb bs room st o F w (lineL st o)) := by
  obtain ⟨c2, c3, c4, c5⟩ := hP.cells
  rcases Nat.eq_zero_or_pos st with h0 | h0
  · have hl : lineL st o = [] := by unfold lineL; rw [if_pos h0]
    rw [hl]
    subst h0
    have HP := Lib.hid hP
    clear hP hl c2 c4 c5
    go_enter Tryz.func75, Tryz.ntmps75
    go_wp2_with fail
    first | go_end0 | refine bodyPost_ret (results_none rfl _ _ _) rfl ?_
    exact Wr.nil HP.out
  · have hl : lineL st o = 10 :: List.replicate (st * o) 32 := by unfold lineL; rw [if_neg (by omega)]
    rw [hl]
    obtain ⟨m, hm⟩ : ∃ m, st * o = m := ⟨_, rfl⟩
    have hm2 : m ≤ 8000 := by rw [← hm]; exact Nat.mul_le_mul hst ho
    have hmw : IntKind.i64.wrap ((st : Int) * (o : Int)) = (m : Int) := by
      rw [← Int.natCast_mul, hm]; exact IntWalk.i64_in _ (by omega)
    have hpos : (0 : Int) < (st : Int) := by omega
    rw [hm]
    clear hl hm
    have hrep : ∀ W, Calls Tryz.prog 106 #[.string ⟨#[32]⟩, .int .i64 (m : Int)] W fun e w' => e = .returned (.string ⟨(List.replicate m (32 : UInt8)).toArray⟩) ∧ Below W.heap.size W w' := fun W => by
      have := Tryz.strings_Repeat ⟨#[32]⟩ m W (by omega) (by show 1 * m ≤ _; omega)
      rw [show (⟨#[32]⟩ : ByteArray).data.toList = [32] from rfl, repeat_one] at this
      exact this
    obtain ⟨R, hR⟩ : ∃ R : ByteArray, R = ⟨(List.replicate m (32 : UInt8)).toArray⟩ := ⟨_, rfl⟩
    rw [← hR] at hrep
    have hRl : ((⟨#[10]⟩ : ByteArray) ++ R).data.toList = 10 :: List.replicate m 32 := by rw [hR, ByteArray.data_append]; simp
    have HRL := Lib.hid hRl
    have HP := Lib.hid hP
    have hRs : R.size = m := by rw [hR]; simp [ByteArray.size]
    have hcat : ¬ (9223372036854775807 < 1 + m) := by omega
    clear hP hRl hR
    go_enter Tryz.func75, Tryz.ntmps75
    go_upto_region 1 with fail
    refine wp_region_held_drew (S := fun V => V.cell? ⟨pb, 3, none⟩ = some (.int .i64 (st : Int)) ∧ V.cell? ⟨pb, 4, none⟩ = some (.int .i64 (o : Int))) (by kernel_rfl) ⟨c3, c4⟩ (fun hHeld => ?_)
    (try simp only [List.size_toArray, List.length_cons, List.length_nil, Nat.reduceAdd, Array.replicate_succ, Array.replicate_zero, List.push_toArray, List.append_toArray, List.nil_append, List.cons_append])
    refine wpAnyH_take (i := 0) (oi := ⟨_, _, _, _, _, _⟩) (v := ?_) rfl (by kernel_rfl) (by kernel_rfl) (by kernel_rfl) (fun _ _ _ h => h) (Or.inl ⟨by rfl, ?_⟩) (by assumption) ?_
    rotate_left
    · intro w hSw
      (try dsimp only at hSw)
      go_split_ands
      go_simp
      try with_reducible rfl
    try simp only [Act.put, List.setIfInBounds_toArray, List.set_cons_zero, List.set_cons_succ]
    refine wpAnyH_take (i := 1) (oi := ⟨_, _, _, _, _, _⟩) (v := ?_) rfl (by kernel_rfl) (by kernel_rfl) (by kernel_rfl) (fun _ _ _ h => h) (Or.inl ⟨by rfl, ?_⟩) (by assumption) ?_
    rotate_left
    · intro w hSw
      (try dsimp only at hSw)
      go_split_ands
      go_simp
      try with_reducible rfl
    try simp only [Act.put, List.setIfInBounds_toArray, List.set_cons_zero, List.set_cons_succ]
    refine wpAnyH_take (i := 2) (oi := ⟨_, _, _, _, _, _⟩) (v := ?_) rfl (by kernel_rfl) (by kernel_rfl) (by kernel_rfl) (fun _ _ _ h => h) (Or.inl ⟨by rfl, ?_⟩) (by assumption) ?_
    rotate_left
    · intro w hSw
      (try dsimp only at hSw)
      go_split_ands
      go_simp
      try with_reducible rfl
    try simp only [Act.put, List.setIfInBounds_toArray, List.set_cons_zero, List.set_cons_succ]
    refine wpAnyH_take (i := 3) (oi := ⟨_, _, _, _, _, _⟩) (v := ?_) rfl (by kernel_rfl) (by kernel_rfl) (by kernel_rfl) (fun _ _ _ h => h) (Or.inl ⟨by rfl, ?_⟩) (by assumption) ?_
    rotate_left
    · intro w hSw
      (try dsimp only at hSw)
      go_split_ands
      go_simp
      try with_reducible rfl
    try simp only [Act.put, List.setIfInBounds_toArray, List.set_cons_zero, List.set_cons_succ]
    refine wpAnyH_take (i := 4) (oi := ⟨_, _, _, _, _, _⟩) (v := ?_) rfl (by kernel_rfl) (by kernel_rfl) (by kernel_rfl) (fun _ _ _ h => h) (Or.inl ⟨by rfl, ?_⟩) (by assumption) ?_
    rotate_left
    · intro w hSw
      (try dsimp only at hSw)
      go_split_ands
      go_simp
      try with_reducible rfl
    try simp only [Act.put, List.setIfInBounds_toArray, List.set_cons_zero, List.set_cons_succ]
    refine wpAnyH_take (i := 5) (oi := ⟨_, _, _, _, _, _⟩) (v := ?_) rfl (by kernel_rfl) (by kernel_rfl) (by kernel_rfl) (fun _ _ _ h => h) (Or.inl ⟨by rfl, ?_⟩) (by assumption) ?_
    rotate_left
    · intro w hSw
      (try dsimp only at hSw)
      go_split_ands
      go_simp
      try with_reducible rfl
    try simp only [Act.put, List.setIfInBounds_toArray, List.set_cons_zero, List.set_cons_succ]
    refine wpAnyH_take (i := 6) (oi := ⟨_, _, _, _, _, _⟩) (v := ?_) rfl (by kernel_rfl) (by kernel_rfl) (by kernel_rfl) (fun _ _ _ h => h) (Or.inl ⟨by rfl, ?_⟩) (by assumption) ?_
    rotate_left
    · intro w hSw
      (try dsimp only at hSw)
      go_split_ands
      go_simp
      try with_reducible rfl
    try simp only [Act.put, List.setIfInBounds_toArray, List.set_cons_zero, List.set_cons_succ]
    refine wpAnyH_take (i := 7) (oi := ⟨_, _, _, _, _, _⟩) (v := ?_) rfl (by kernel_rfl) (by kernel_rfl) (by kernel_rfl) (fun _ _ _ h => h) (Or.inl ⟨by rfl, ?_⟩) (by assumption) ?_
    rotate_left
    · intro w hSw
      (try dsimp only at hSw)
      go_split_ands
      go_simp
      try with_reducible rfl
    try simp only [Act.put, List.setIfInBounds_toArray, List.set_cons_zero, List.set_cons_succ]
    refine wpAnyH_take (i := 8) (oi := ⟨_, _, _, _, _, _⟩) (v := ?_) rfl (by kernel_rfl) (by kernel_rfl) (by kernel_rfl) (fun _ _ _ h => h) (Or.inl ⟨by rfl, ?_⟩) (by assumption) ?_
    rotate_left
    · intro w hSw
      (try dsimp only at hSw)
      go_split_ands
      go_simp
      try with_reducible rfl
    try simp only [Act.put, List.setIfInBounds_toArray, List.set_cons_zero, List.set_cons_succ]
    refine wpAnyH_take (i := 9) (oi := ⟨_, _, _, _, _, _⟩) (v := ?_) rfl (by kernel_rfl) (by kernel_rfl) (by kernel_rfl) (fun _ _ _ h => h) (Or.inl ⟨by rfl, ?_⟩) (by assumption) ?_
    rotate_left
    · intro w hSw
      (try dsimp only at hSw)
      go_split_ands
      go_simp
      try with_reducible rfl
    try simp only [Act.put, List.setIfInBounds_toArray, List.set_cons_zero, List.set_cons_succ]
    refine wpAnyH_take (i := 10) (oi := ⟨_, _, _, _, _, _⟩) (v := ?_) rfl (by kernel_rfl) (by kernel_rfl) (by kernel_rfl) (fun _ _ _ h => h) (Or.inl ⟨by rfl, ?_⟩) (by assumption) ?_
    rotate_left
    · intro w hSw
      (try dsimp only at hSw)
      go_split_ands
      go_simp
      try with_reducible rfl
    try simp only [Act.put, List.setIfInBounds_toArray, List.set_cons_zero, List.set_cons_succ]
    refine wpAnyH_take (i := 11) (oi := ⟨_, _, _, _, _, _⟩) (v := ?_) rfl (by kernel_rfl) (by kernel_rfl) (by kernel_rfl) (fun _ _ _ h => h) (Or.inl ⟨by rfl, ?_⟩) (by assumption) ?_
    rotate_left
    · intro w hSw
      (try dsimp only at hSw)
      go_split_ands
      go_simp
      try with_reducible rfl
    try simp only [Act.put, List.setIfInBounds_toArray, List.set_cons_zero, List.set_cons_succ]
    refine wpAnyH_ready (rs := [12]) (by kernel_rfl) (by simp) (AllReadyH.cons (o := ⟨_, _, _, _, _, _⟩) rfl (fun K hK => ?_) AllReadyH.nil)
    go_simp
    refine (hrep _).mono ?_
    rintro e w2 ⟨rfl, hb2⟩
    (try dsimp only)
    have hb2' : But (fun _ => False) w w2 := ((But.refl _ w).drew).trans (But.of hb2)
    have hP2 := HP.out.stay0 hb2'
    obtain ⟨-, e3, e4, -⟩ := hP2.cells
    refine hK _ _ ⟨e3, e4⟩ (fun hHeld2 => ?_)
    clear hK K hHeld
    try simp only [Act.put, List.setIfInBounds_toArray, List.set_cons_zero, List.set_cons_succ]
    refine wpAnyH_take (i := 13) (oi := ⟨_, _, _, _, _, _⟩) (v := ?_) rfl (by kernel_rfl) (by kernel_rfl) (by kernel_rfl) (fun _ _ _ h => h) (Or.inl ⟨by rfl, ?_⟩) (by assumption) ?_
    rotate_left
    · intro w hSw
      (try dsimp only at hSw)
      go_split_ands
      go_simp
      try with_reducible rfl
    try simp only [Act.put, List.setIfInBounds_toArray, List.set_cons_zero, List.set_cons_succ]
    refine wpAnyH_ready (rs := [14]) (by kernel_rfl) (by simp) (AllReadyH.cons (o := ⟨_, _, _, _, _, _⟩) rfl (fun K hK => ?_) AllReadyH.nil)
    go_simp
    refine (putL_c w2 hP2 _ _ HRL.out (by rw [List.length_cons, List.length_replicate]; omega) (Nat.le_trans hB hb2'.size)).mono ?_
    rintro e w3 (⟨hr3, rfl, hP3, hS3⟩ | ⟨hr3, rfl, hS3⟩)
    case inr => exact ⟨rfl, Wr.no hr3 ((Soft.of0 hb2').trans hS3)⟩
    (try dsimp only)
    obtain ⟨-, e3, e4, -⟩ := hP3.cells
    refine hK _ _ ⟨e3, e4⟩ (fun hHeld3 => ?_)
    clear hK K hHeld2
    try simp only [Act.put, List.setIfInBounds_toArray, List.set_cons_zero, List.set_cons_succ]
    refine wpAnyH_done (by kernel_rfl) ?_ _
    have HP3 := Lib.hid hP3
    have HS3 := Lib.hid ((Soft.of0 hb2').trans hS3)
    clear hP3 hS3 hP2 hb2' hHeld3
    go_wp2_with fail
    first | go_end0 | refine bodyPost_ret (results_none rfl _ _ _) rfl ?_
    exact Wr.done hr3 HP3.out HS3.out
/-- A key, printed, with what stands behind it. -/
def keyL (qc : Int → List UInt8) (st : Nat) (k : ByteArray) : List UInt8 := txtL qc k ++ ([58] ++ (if st = 0 then [] else [32]))
set_option maxRecDepth 100000 in
set_option maxHeartbeats 2000000 in
theorem pkey_c {F : Value} {qc : Int → List UInt8} (hM : Md F qc) {B pb : Nat} {bs : List UInt8} {room st o : Nat} (w : World) (hP : Pg B pb bs room st o F w) (hG : Gl B w) (hB : B ≤ w.heap.size) (s : ByteArray) (hT : isT s.data.toList = true) (hs : s.size ≤ 140737488355328)
    (hcap : bs.length + room ≤ 140737488355328) :
    Calls Tryz.prog 76 #[pgP pb, .string s] w (Wr B pb bs room st o F w (keyL qc st s)) := by
  unfold keyL
  obtain ⟨T, hTT⟩ : ∃ T, txtL qc s = T := ⟨_, rfl⟩
  have ht := ptext_c hM w hP hG hB s hT hs (.inr hcap)
  rw [hTT] at ht ⊢
  have HP := Lib.hid hP
  obtain ⟨sp, hsp⟩ : ∃ sp : List UInt8, (if st = 0 then [] else [32]) = sp := ⟨_, rfl⟩
  rw [hsp]
  obtain ⟨O, hO⟩ : ∃ O, T ++ ([58] ++ sp) = O := ⟨_, rfl⟩
  rw [hO]
  have HSP := Lib.hid hsp
  have HO := Lib.hid hO
  clear hP hTT hG hsp hO
  go_enter Tryz.func76, Tryz.ntmps76
  go_wp2_with fail
  refine ht.mono ?_
  rintro e w1 (⟨hr1, rfl, hP1, hS1⟩ | ⟨hr1, rfl, hS1⟩)
  case inr =>
    go_wp2_with fail
    rw [← HO.out]
    exact ⟨rfl, Wr.fail _ hr1 hS1⟩
  have HP1 := Lib.hid hP1
  have HS1 := Lib.hid hS1
  clear hP1 hS1 ht
  go_wp2_with fail
  refine (putL_c w1 HP1.out ⟨#[58]⟩ [58] rfl (by rw [List.length_append, List.length_singleton]; omega) (Nat.le_trans hB HS1.out.size)).mono ?_
  rintro e w2 (⟨hr2, rfl, hP2, hS2⟩ | ⟨hr2, rfl, hS2⟩)
  case inr =>
    go_wp2_with fail
    rw [← HO.out]
    exact ⟨rfl, Wr.step hr1 HS1.out (Wr.fail _ hr2 hS2)⟩
  have HP2 := Lib.hid hP2
  have HS2 := Lib.hid hS2
  obtain ⟨-, c3, -, -⟩ := hP2.cells
  clear hP2 hS2
  rcases Nat.eq_zero_or_pos st with h0 | h0
  · subst h0
    go_wp2_with fail
    first | go_end0 | refine bodyPost_ret (results_none rfl _ _ _) rfl ?_
    rw [← HO.out, ← (show ([] : List UInt8) = sp from HSP.out)]
    exact Wr.step hr1 HS1.out (Wr.step hr2 HS2.out (Wr.nil HP2.out))
  · have hpos : (0 : Int) < (st : Int) := by omega
    have hs32 : [32] = sp := by rw [← HSP.out, if_neg (show ¬ st = 0 by omega)]
    have HS32 := Lib.hid hs32
    clear hs32
    go_wp2_with fail
    refine (putL_c w2 HP2.out ⟨#[32]⟩ [32] rfl (by rw [List.length_singleton] at hr2; rw [List.length_append, List.length_append, List.length_singleton, List.length_singleton]; omega) (Nat.le_trans hB (HS1.out.trans HS2.out).size)).mono ?_
    rintro e w3 (⟨hr3, rfl, hP3, hS3⟩ | ⟨hr3, rfl, hS3⟩)
    case inr =>
      go_wp2_with fail
      rw [← HO.out, ← HS32.out]
      exact ⟨rfl, Wr.step hr1 HS1.out (Wr.step hr2 HS2.out (Wr.no hr3 hS3))⟩
    have HP3 := Lib.hid hP3
    have HS3 := Lib.hid hS3
    clear hP3 hS3
    go_wp2_with fail
    first | go_end0 | refine bodyPost_ret (results_none rfl _ _ _) rfl ?_
    rw [← HO.out, ← HS32.out]
    exact Wr.step hr1 HS1.out (Wr.step hr2 HS2.out (Wr.done hr3 HP3.out HS3.out))
end Go.Proofs.YtcanfiaooabocaaGreatDoor
