/-
  Split: the reference's.
-/
import Derived.Test.YtdacdppmgcaioaaDoorLTrc
import Derived.Test.YtdacdppmgcaioaaDoorLTlr
set_option linter.unusedVariables false
set_option linter.unusedSimpArgs false
namespace Go.Proofs.YtdacdppmgcaioaaDoor
open Go.RowKit Go.Lib

/-- The parts that Split tells. -/
def partsP (s sep : ByteArray) : List (List UInt8) := if s = ⟨#[]⟩ then [] else splitP sep.data.toList s.data.toList
/-- What Split comes to, of what the reference's comes to as well. -/
def SplX (s sep : ByteArray) (e : Ending) (w' : World) : Prop :=
  (errX [s, sep] = 61 ∧ e = .returned (.tuple #[.slice none 0 0, .int .i64 61])) ∨
    (errX [s, sep] = 0 ∧ (∃ p ∈ partsP s sep, 16384 < p.length) ∧ e = .returned (.tuple #[.slice none 0 0, .int .i64 5])) ∨
    (errX [s, sep] = 0 ∧ (∀ p ∈ partsP s sep, p.length ≤ 16384) ∧ ∃ (A : Option Addr) (c : Nat) (xs : List ByteArray), xs.map dl = partsP s sep ∧ e = .returned (.tuple #[.slice A xs.length c, .int .i64 0]) ∧ RdX w' w'.heap.size A xs)
theorem SplitE.x {s sep : ByteArray} {w0 : Nat} {e : Ending} {w' : World} (h : SplitE s sep w0 e w') : SplX s sep e w' := by
  rcases h with ⟨h1, rfl⟩ | ⟨h1, h2, rfl⟩ | ⟨h1, h2, h3⟩
  · exact .inl ⟨h1, rfl⟩
  · have hp : partsP s sep = [] := if_pos h2
    exact .inr (.inr ⟨h1, by rw [hp]; simp, none, 0, [], by rw [hp]; rfl, rfl, fun i x hx => by simp at hx⟩)
  · have hp : partsP s sep = splitP sep.data.toList s.data.toList := if_neg h2
    rcases h3 with ⟨h4, g, c, xs, h5, -, h6, rfl, -, h7⟩ | ⟨h4, rfl⟩
    · exact .inr (.inr ⟨h1, by rw [hp]; exact h4, some ⟨g, 0, none⟩, c, xs, by rw [hp]; exact h5, rfl, h7.up (by omega)⟩)
    · exact .inr (.inl ⟨h1, by rw [hp]; exact h4, rfl⟩)
set_option maxHeartbeats 4000000 in
set_option maxRecDepth 100000 in
theorem rSplit_c (s sep : ByteArray) (w : World) (hs : s.size ≤ 1048576) (ht : sep.size ≤ 1048576) :
    Calls Tryd.prog 12 #[.string s, .string sep] w fun e w' => SplX s sep e w' ∧ Below w.heap.size w w' := by
  have hck := rChecks2_c s sep w (by omega) (by omega)
  obtain ⟨E, hE⟩ : ∃ E, errX [s, sep] = E := ⟨_, rfl⟩
  have hc := errX_cases [s, sep]
  rw [hE] at hck hc
  have HC := Lib.hid hck
  have HE := Lib.hid hE
  clear hck
  rcases hc with rfl | rfl
  · by_cases hse : s = ⟨#[]⟩
    · subst hse
      have hwh := fun W => wholes_c (B := 0) (A := none) (c := 0) (xs := []) W (fun i x hx => by simp at hx) (by simp)
      have HW := Lib.hid hwh
      clear hE hwh
      go_enter Tryd.func12, Tryd.ntmps12
      go_wp2_with fail
      refine HC.out.mono ?_
      rintro e w1 ⟨rfl, hb1⟩
      have HB := Lib.hid hb1
      clear hb1
      go_wp2_with fail
      refine (rCutNone_c _ _).mono ?_
      rintro e w2 ⟨rfl, rfl⟩
      go_wp2_with fail
      refine (HW.out _).mono ?_
      rintro e w3 ⟨hW3, rfl⟩
      rcases hW3 with ⟨-, rfl⟩ | ⟨⟨x, hx, -⟩, -⟩
      · go_wp2_with fail
        go_ret2
        have hp : partsP ⟨#[]⟩ sep = [] := if_pos rfl
        exact ⟨.inr (.inr ⟨HE.out, by rw [hp]; simp, none, 0, [], by rw [hp]; rfl, rfl, fun i x hx => by simp at hx⟩), HB.out⟩
      · simp at hx
    · have hp : partsP s sep = splitP sep.data.toList s.data.toList := if_neg hse
      have hcut : ∀ W, Calls Tryd.prog 48 #[.string s, .string sep] W fun e w' => ∃ (g c : Nat) (xs : List ByteArray), xs.map dl = partsP s sep ∧ W.heap.size ≤ g ∧ g < w'.heap.size ∧ e = .returned (.slice (some ⟨g, 0, none⟩) xs.length c) ∧ xs.length ≤ c ∧ RdX w' (g + 1) (some ⟨g, 0, none⟩) xs ∧ Below W.heap.size W w' := fun W => by
        rw [hp]
        unfold splitP
        by_cases hpe : sep = ⟨#[]⟩
        · subst hpe
          rw [if_pos rfl]
          exact rCutCh_c s W hs hse (errX_all hE s (by simp))
        · rw [if_neg (toList_ne hpe)]
          exact rCut_c s sep W hs ht hse hpe
      have hpl : (partsP s sep).length ≤ s.size + 1 := by
        rw [hp, sizeT_list]; exact splitP_len _ _
      have HCU := Lib.hid hcut
      clear hE hse hcut hp
      go_enter Tryd.func12, Tryd.ntmps12
      go_wp2_with fail
      refine HC.out.mono ?_
      rintro e w1 ⟨rfl, hb1⟩
      have HB := Lib.hid hb1
      clear hb1
      go_wp2_with fail
      refine (HCU.out w1).mono ?_
      rintro e w3 ⟨g, c, xs, hxs, hgb, hgl, rfl, hcap, hrd, hb3⟩
      have HB3 := Lib.hid (HB.out.trans (hb3.mono HB.out.size))
      clear hb3
      have hxl : xs.length ≤ s.size + 1 := by rw [← hxs, List.length_map] at hpl; exact hpl
      have hba := big_all (ys := xs) hxs (fun y hy => hy) (fun y hy => .inl hy)
      have hwh := wholes_c (c := c) w3 hrd (by omega)
      have HRD := Lib.hid (hrd.up (show g + 1 ≤ w3.heap.size by omega))
      have HXS := Lib.hid hxs
      have HW := Lib.hid hwh
      have HBA := Lib.hid hba
      clear hrd hxs hwh hba
      obtain ⟨k, hk⟩ : ∃ k, xs.length = k := ⟨_, rfl⟩
      have HK := Lib.hid hk
      rw [hk] at HW ⊢
      clear hk
      go_wp2_with fail
      refine HW.out.mono ?_
      rintro e w4 ⟨hW4, rfl⟩
      rcases hW4 with ⟨hall, rfl⟩ | ⟨hbig, rfl⟩
      · have HA := Lib.hid hall
        clear hall
        go_wp2_with fail
        go_ret2
        exact ⟨.inr (.inr ⟨HE.out, HBA.out.1 HA.out, some ⟨g, 0, none⟩, c, xs, HXS.out, by rw [HK.out]; rfl, HRD.out⟩), HB3.out⟩
      · have HBI := Lib.hid hbig
        clear hbig
        go_wp2_with fail
        go_ret2
        exact ⟨.inr (.inl ⟨HE.out, HBA.out.2 HBI.out, rfl⟩), HB3.out⟩
  · clear hE
    go_enter Tryd.func12, Tryd.ntmps12
    go_wp2_with fail
    refine HC.out.mono ?_
    rintro e w1 ⟨rfl, hb1⟩
    have HB := Lib.hid hb1
    clear hb1
    go_wp2_with fail
    go_ret2
    exact ⟨.inl ⟨HE.out, rfl⟩, HB.out⟩
end Go.Proofs.YtdacdppmgcaioaaDoor
