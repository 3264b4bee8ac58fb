/-
  The table of powers of ten that strconv.Itoa reads; dec.Print of any decimal that the table serves.
-/
import Derived.Test.YtpbfdgjeocmikaaGreatDoorRDbo
import Derived.Lib.LaidTab
import Derived.Lib.LaidU8
import Derived.Lib.ItoaLen
import Derived.Sort.Grow
import Derived.Test.YtpbfdgjeocmikaaGreatDoorRows
import Derived.MakeChecks
set_option linter.unusedVariables false
set_option linter.unusedSimpArgs false
namespace Go.Proofs.YtpbfdgjeocmikaaGreatDoor
open Go.RowKit

/-- The table reads as the powers of ten. -/
def Tab10 (w : World) : Prop := Lib.TabIs Tryz.prog w "internal/strconv.uint64pow10" .u64 Lib.pow10Tab
theorem pow_global : Tryz.prog.globalNamed "internal/strconv.uint64pow10" = some 3 := by kernel_rfl
theorem Tab10.below {w w' : World} (h : Tab10 w) (hb : Below w.heap.size w w') : Tab10 w' := by
  unfold Tab10 Lib.TabIs World.var? at h ⊢
  rw [pow_global] at h ⊢
  simp only [Option.bind_some] at h ⊢
  have hlt : (3 : Nat) < w.heap.size := by
    rcases Nat.lt_or_ge (3 : Nat) w.heap.size with h' | h'
    · exact h'
    · rw [Array.getElem?_eq_none h'] at h; cases h
  rw [hb.block _ hlt]
  exact h
theorem tab10_of {W : World} {laid : List (String × DataW Unit)} (hL : laidMetH Tryz.prog laid W) (h0 : (laid.all fun x => x.2.handleName?.isNone) = true) (h1 : ("internal/strconv.uint64pow10", Rows.laid_internal_strconv_uint64pow10) ∈ laid) : Tab10 W := by
  rw [MakeChecks.laidMetH_plain _ _ _ h0] at hL
  obtain ⟨g, t, cs, fuel, p, hg, ht, hv, hd⟩ := Lib.laidMet.reads hL h1
  have hg2 : g = 3 := by rw [pow_global] at hg; injection hg with hg; exact hg.symm
  subst hg2
  have ht2 : t = 189 := by
    have h2 : (Tryz.prog.globals[(3 : Nat)]?).map (·.type) = some 189 := by kernel_rfl
    rw [h2] at ht
    injection ht with ht
    exact ht.symm
  subst ht2
  have e : (Rows.laid_internal_strconv_uint64pow10 : DataW Unit) = Lib.tabData .u64 Lib.pow10Tab := by kernel_rfl
  rw [e] at hd
  have := Lib.cells_of_tab (e := 103) (n := 20) (by kernel_rfl) (by kernel_rfl) (by kernel_rfl) (by kernel_rfl) hd
  unfold Tab10 Lib.TabIs
  rw [hv, ← this]
theorem ItoaOk.tab {w : World} (h : Tab10 w) {z : Int} (h0 : -9223372036854775808 ≤ z) (h1 : z ≤ 9223372036854775807) : ItoaOk w.heap.size w z := fun W hW => by
  refine (Tryz.strconv_Itoa z h0 h1 W (h.below hW)).mono ?_
  rintro e w' ⟨rfl, k, os, rfl⟩
  refine ⟨_, rfl, by rw [octs_list]; rfl, ?_, ?_⟩
  · have := Lib.itoa_length_le z h0 h1
    show (Lib.itoa z).length ≤ 100
    omega
  · exact ⟨rfl, rfl, rfl, by show W.heap.size ≤ (W.heap ++ os).size; rw [Array.size_append]; omega, fun k hk => by
      show (W.heap ++ os)[k]? = W.heap[k]?
      rw [Array.getElem?_append_left hk]⟩
theorem prz_bound {neg : Bool} {xs : List Nat} {exp : Int} (hx : L32 xs) (hok : okB neg xs exp = true) : -10000 ≤ prz (val xs) exp ∧ prz (val xs) exp ≤ 10000 := by
  obtain ⟨a1, a2, a3, ⟨x1, x2⟩, x3, _⟩ := okB_true hx hok
  obtain ⟨l1, l2⟩ := numO_le (okB_len hok)
  unfold prz
  split <;> omega
theorem prt_len {neg : Bool} {xs : List Nat} {exp : Int} (hx : L32 xs) (hok : okB neg xs exp = true) : (prt neg (val xs) exp).length ≤ 1000 := by
  obtain ⟨a1, a2, a3, ⟨x1, x2⟩, x3, _⟩ := okB_true hx hok
  obtain ⟨l1, l2⟩ := numO_le (okB_len hok)
  have hi : ∀ z : Int, -10000 ≤ z → z ≤ 10000 → (itoO z).length ≤ 21 := fun z h1 h2 => by
    unfold itoO
    rw [List.length_map]
    exact Lib.itoa_length_le z (by omega) (by omega)
  unfold prt prtAt
  rw [List.length_append]
  have h1 : (if neg = true then [45] else ([] : List Nat)).length ≤ 1 := by cases neg <;> simp
  have h2 : (if -5 ≤ ((numO (val xs)).length : Int) + exp ∧ ((numO (val xs)).length : Int) + exp ≤ 21 then plainT (numO (val xs)) (((numO (val xs)).length : Int) + exp) else powT (numO (val xs)) (((numO (val xs)).length : Int) + exp)).length ≤ 900 := by
    by_cases hp : -5 ≤ ((numO (val xs)).length : Int) + exp ∧ ((numO (val xs)).length : Int) + exp ≤ 21
    · rw [if_pos hp]
      unfold plainT
      split
      · simp; omega
      · split
        · simp; omega
        · simp; omega
    · rw [if_neg hp]
      have := powT_len (numO (val xs)) (p := ((numO (val xs)).length : Int) + exp) rfl (by
        have := hi (if ((numO (val xs)).length : Int) + exp < 1 then 1 - (((numO (val xs)).length : Int) + exp) else ((numO (val xs)).length : Int) + exp - 1) (by split <;> omega) (by split <;> omega)
        omega)
      omega
  omega
/-- dec.Print of any decimal. -/
def pE (neg : Bool) (xs : List Nat) (exp : Int) : Nat := if okB neg xs exp = true then 0 else 9
def pT (neg : Bool) (xs : List Nat) (exp : Int) : List Nat := if okB neg xs exp = true then prt neg (val xs) exp else []
theorem DPrint_c {S : Nat → Prop} {n c : Nat} {A : Option Addr} {xs : List Nat} (neg : Bool) (exp : Int) (w : World) (hT : Tab10 w) (ha : Rd w S A n xs) (hS : ∀ b, S b → b < w.heap.size) (hn : n ≤ 9223372036854775807) :
    Calls Tryz.prog 48 #[dv neg A n c exp] w fun e w' => ∃ t, e = .returned (.tuple #[.string t, .int .i64 (pE neg xs exp : Int)]) ∧ octs t = pT neg xs exp ∧ t.size ≤ 1000 ∧ Below w.heap.size w w' := by
  unfold pE pT
  cases hok : okB neg xs exp with
  | true =>
    have hb := prz_bound ha.l32 hok
    refine (DPrint_ok neg exp w ha hS hn hok (ItoaOk.tab hT (by omega) (by omega))).mono ?_
    rintro e w' ⟨t, rfl, ht, hw⟩
    exact ⟨t, rfl, ht, by rw [← octs_length, ht]; exact prt_len ha.l32 hok, hw⟩
  | false =>
    refine (DPrint_err neg exp w ha hS hn hok).mono ?_
    rintro e w' ⟨rfl, hw⟩
    exact ⟨⟨#[]⟩, rfl, rfl, by decide, hw⟩
end Go.Proofs.YtpbfdgjeocmikaaGreatDoor
