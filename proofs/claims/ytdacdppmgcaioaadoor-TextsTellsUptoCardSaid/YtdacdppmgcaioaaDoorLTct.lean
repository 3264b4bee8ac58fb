/-
  The reference: Cut at a text that is not empty; wholes.
-/
import Derived.Test.YtdacdppmgcaioaaDoorLTry
import Derived.Test.YtdacdppmgcaioaaDoorLTjo
set_option linter.unusedVariables false
set_option linter.unusedSimpArgs false
namespace Go.Proofs.YtdacdppmgcaioaaDoor
open Go.RowKit Go.Lib

/-- What stands ahead of the first part. -/
def headApp (p : List UInt8) : List (List UInt8) → List (List UInt8)
  | [] => []
  | q :: r => (p ++ q) :: r
theorem headApp_nil (l : List (List UInt8)) : headApp [] l = l := by cases l <;> rfl
theorem headApp_app (p q : List UInt8) (l : List (List UInt8)) : headApp p (headApp q l) = headApp (p ++ q) l := by
  cases l with
  | nil => rfl
  | cons a r => show (p ++ (q ++ a)) :: r = (p ++ q ++ a) :: r; rw [List.append_assoc]
theorem cut_hit {sep M : List UInt8} (hne : sep ≠ []) (hp : Lib.hasPrefix M sep = true) : cutP (nxOf sep) M = [] :: cutP (nxOf sep) (M.drop sep.length) := by
  have hix : Lib.index M sep = 0 := by
    cases M with
    | nil =>
      unfold Lib.hasPrefix at hp
      cases sep with
      | nil => exact absurd rfl hne
      | cons a t => simp at hp
    | cons b l =>
      unfold Lib.index
      unfold Lib.hasPrefix at hp
      rw [if_pos hp]
  have h : nxOf sep M = some (0, sep.length) := by
    unfold nxOf
    rw [if_neg (by rw [hix]; rintro (h | h); exact hne h; omega), hix]
    rfl
  rw [cutP_some (nxOf_goes sep) h, Nat.zero_add]; rfl
theorem cut_miss {sep : List UInt8} {b : UInt8} {M : List UInt8} (hne : sep ≠ []) (hp : Lib.hasPrefix (b :: M) sep = false) : cutP (nxOf sep) (b :: M) = headApp [b] (cutP (nxOf sep) M) := by
  have hix : Lib.index (b :: M) sep = if Lib.index M sep == -1 then -1 else Lib.index M sep + 1 := by
    show (if sep.isPrefixOf (b :: M) then (0 : Int) else _) = _
    unfold Lib.hasPrefix at hp
    rw [if_neg (by rw [hp]; decide)]
  rcases index_cases sep hne M with h1 | ⟨i, h1, h2, h3⟩
  · rw [h1, if_pos (by decide)] at hix
    have e1 : nxOf sep M = none := if_pos (.inr (by rw [h1]; decide))
    have e2 : nxOf sep (b :: M) = none := if_pos (.inr (by rw [hix]; decide))
    rw [cutP_none e1, cutP_none e2]; rfl
  · rw [h1, if_neg (by simp)] at hix
    have e1 : nxOf sep M = some (i, sep.length) := by
      unfold nxOf
      rw [if_neg (by rw [h1]; rintro (h | h); exact hne h; omega), h1]
      rfl
    have e2 : nxOf sep (b :: M) = some (i + 1, sep.length) := by
      unfold nxOf
      rw [if_neg (by rw [hix]; rintro (h | h); exact hne h; omega), hix]
      rfl
    rw [cutP_some (nxOf_goes sep) e1, cutP_some (nxOf_goes sep) e2, show i + 1 + sep.length = (i + sep.length) + 1 by omega, List.drop_succ_cons, List.take_succ_cons]
    rfl
theorem cut_end {sep : List UInt8} : cutP (nxOf sep) [] = [[]] := by
  have h : nxOf sep [] = none := by
    cases h : nxOf sep [] with
    | none => rfl
    | some q => obtain ⟨a, z⟩ := q; have := nxOf_goes _ _ _ _ h; simp at this; omega
  rw [cutP_none h]
/-- A piece of a text. -/
def segT (L : List UInt8) (f i : Nat) : List UInt8 := (L.drop f).take (i - f)
theorem segT_ext (s : ByteArray) (f i : Nat) (h : i ≤ s.size) : (s.extract f i).data.toList = segT s.data.toList f i := by
  rw [ByteArray.data_extract, Array.toList_extract]
  rfl
theorem segT_snoc {L : List UInt8} {f i : Nat} {b : UInt8} (hf : f ≤ i) (h : L[i]? = some b) : segT L f (i + 1) = segT L f i ++ [b] := by
  unfold segT
  rw [show i + 1 - f = (i - f) + 1 by omega, List.take_add_one, List.getElem?_drop, show f + (i - f) = i by omega, h]
  rfl
theorem segT_all {L : List UInt8} {f : Nat} : segT L f L.length = L.drop f := by
  unfold segT
  rw [List.take_of_length_le (by rw [List.length_drop]; omega)]
theorem segT_self {L : List UInt8} {i : Nat} : segT L i i = [] := by
  unfold segT
  rw [Nat.sub_self, List.take_zero]

set_option maxHeartbeats 4000000 in
set_option maxRecDepth 100000 in
theorem wholes_c {B : Nat} {A : Option Addr} {c : Nat} {xs : List ByteArray} (w : World) (hx : RdX w B A xs) (hn : xs.length ≤ 9223372036854775806) :
    Calls Tryd.prog 47 #[.slice A xs.length c] w fun e w' => (((∀ x ∈ xs, x.size ≤ 16384) ∧ e = .returned (.tuple #[.slice A xs.length c, .int .i64 0])) ∨ ((∃ x ∈ xs, 16384 < x.size) ∧ e = .returned (.tuple #[.slice none 0 0, .int .i64 5]))) ∧ w = w' := by
  obtain ⟨n, hnl⟩ : ∃ n, xs.length = n := ⟨_, rfl⟩
  rw [hnl] at hn ⊢
  have HX := Lib.hid hx
  have HN := Lib.hid hnl
  clear hx hnl
  go_enter Tryd.func47, Tryd.ntmps47
  go_wp2_with fail
  go_loopw [4] (fun iv wr => ∃ i : Nat, i ≤ n ∧ iv = .int .i64 (i : Int) ∧ Hid (∀ x ∈ xs.take i, x.size ≤ 16384) ∧ w = wr) (fun iv _ => n - (RowKit.intOf iv).toNat)
  case atStart => exact ⟨0, Nat.zero_le _, rfl, by show ∀ x ∈ xs.take 0, _; simp, rfl⟩
  case round =>
    obtain ⟨i, hin, rfl, hok, rfl⟩ := hrel
    by_cases hi : i < n
    · have hilt : (i : Int) < (n : Int) := by omega
      have hi0 : (0 : Int) ≤ (i : Int) := by omega
      have hit : ((i : Int)).toNat = i := by omega
      have hiw : IntKind.i64.wrap ((i : Int) + 1) = (i : Int) + 1 := IntWalk.i64_in _ (by omega)
      obtain ⟨x, hxi⟩ : ∃ x, xs[i]? = some x := ⟨_, List.getElem?_eq_getElem (by rw [HN.out]; exact hi)⟩
      obtain ⟨g, off, rfl, hg, hc⟩ := HX.out i x hxi
      have hmem : x ∈ xs := List.mem_of_getElem? hxi
      have htk : xs.take (i + 1) = xs.take i ++ [x] := by rw [List.take_add_one, hxi]; rfl
      have HTK := Lib.hid htk
      have HM := Lib.hid hmem
      have HOK := Lib.hid hok.out
      clear htk hmem hok hxi
      by_cases hl : 16384 < x.size
      · have hlI : (16384 : Int) < (x.size : Int) := by omega
        go_wp2_with fail
        go_ret2
        exact ⟨.inr ⟨⟨x, HM.out, hl⟩, rfl⟩, rfl⟩
      · have hlI : ¬ (16384 : Int) < (x.size : Int) := by omega
        go_wp2_with fail
        go_roundw
        case rel =>
          refine ⟨i + 1, by omega, by go_num, ?_, trivial⟩
          show ∀ y ∈ xs.take (i + 1), _
          rw [HTK.out]
          intro y hy
          rcases List.mem_append.1 hy with hy | hy
          · exact HOK.out y hy
          · rw [show y = x by simpa using hy]; omega
        case measure => simp [RowKit.intOf]; omega
    · have hni : ¬ (i : Int) < (n : Int) := by omega
      have hall : ∀ x ∈ xs, x.size ≤ 16384 := by
        have := hok.out
        rwa [show i = n by omega, ← HN.out, List.take_length] at this
      have HA := Lib.hid hall
      clear hall hok
      go_wp2_with fail
      go_ret2
      exact ⟨.inl ⟨HA.out, rfl⟩, rfl⟩
end Go.Proofs.YtdacdppmgcaioaaDoor
