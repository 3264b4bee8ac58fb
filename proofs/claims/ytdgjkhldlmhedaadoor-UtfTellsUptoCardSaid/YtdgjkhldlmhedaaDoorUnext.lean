/-
  Contract of utf.follow's closure: from how much of a text's beginning stood last, and the next octet, how much stands then.
-/
import Derived.Test.YtdgjkhldlmhedaaDoorUsame
set_option linter.unusedVariables false
set_option linter.unusedSimpArgs false
namespace Go.Proofs.YtdgjkhldlmhedaaDoor
open Go.RowKit Go.Lib

theorem mk8_at {l : List UInt8} {k : Nat} {x : UInt8} (h : l[k]? = some x) (hk : k < (mk8 l).size) : (mk8 l)[k]'hk = x := by
  obtain ⟨h1, h2⟩ := List.getElem?_eq_some_iff.1 h
  show (mk8 l).data[k] = x
  rw [← h2]
  simp [mk8]

set_option maxRecDepth 100000 in
set_option maxHeartbeats 1000000 in
theorem next_c {T u : List UInt8} {c : UInt8} {m N cap : Nat} (B2 B3 g : Nat) (E : Nat → Nat) (w : World) (h2 : w.cell? ⟨B2, 0, none⟩ = some (.string (mk8 T))) (h3 : w.cell? ⟨B3, 0, none⟩ = some (.slice (some ⟨g, 0, none⟩) N cap))
    (hN : N = T.length) (hE : ∀ j, j < m → w.cell? ⟨g, j, none⟩ = some (.int .i64 (E j : Int)) ∧ PB T j (E j)) (hT : 0 < T.length) (hsz : T.length ≤ 1099511627776) (hd : Bd T u m) :
    Calls Tryd.prog 53 #[.int .i64 (m : Int), .int .u8 (c.toNat : Int), .pointer (some ⟨B2, 0, none⟩), .pointer (some ⟨B3, 0, none⟩)] w fun e w' => (∃ r : Nat, e = .returned (.int .i64 (r : Int)) ∧ Bd T (u ++ [c]) r) ∧ w' = w := by
  have hmT := hd.1
  have hdn := Down.of hd c
  obtain ⟨S, hS⟩ : ∃ S, S = mk8 T := ⟨_, rfl⟩
  have hSz : S.size = T.length := by rw [hS, mk8_size]
  have hat : ∀ (k : Nat) (x : UInt8) (hk : k < S.size), T[k]? = some x → S[k]'hk = x := by
    subst hS
    exact fun k x hk h => mk8_at h hk
  rw [← hS] at h2
  have HS := Lib.hid hS
  have HAT := Lib.hid hat
  have HE := Lib.hid hE
  have HDN := Lib.hid hdn
  obtain ⟨n, hn⟩ : ∃ n, n = T.length := ⟨_, rfl⟩
  rw [← hn] at hN hT hsz hmT hSz
  have HN := Lib.hid hn
  clear hS hat hE hdn hd hn
  go_enter Tryd.func53, Tryd.ntmps53
  go_wp2
  go_loopw [0] (fun v wr => ∃ k : Nat, k ≤ m ∧ v = .int .i64 (k : Int) ∧ Hid (Down T u c k) ∧ wr = w) (fun v _ => (RowKit.intOf v).toNat)
  case atStart => exact ⟨m, Nat.le_refl _, rfl, HDN.out, rfl⟩
  case round =>
    obtain ⟨k, hk, rfl, hdown, rfl⟩ := hrel
    have hkT : k ≤ n := by rw [HN.out]; exact hdown.out.1
    have hcx : ∀ x : UInt8, ((x.toNat : Int) == (c.toNat : Int)) = (x == c) ∧ ((x.toNat : Int) != (c.toNat : Int)) = (x != c) := by
      intro x
      have e : ((x.toNat : Int) == (c.toNat : Int)) = (x == c) := by
        rw [Bool.eq_iff_iff, beq_iff_eq, beq_iff_eq]
        constructor
        · intro h; exact UInt8.toNat_inj.1 (by omega)
        · rintro rfl; rfl
      exact ⟨e, by unfold bne; rw [e]⟩
    have HCX := Lib.hid hcx
    clear hcx
    by_cases hk0 : k = 0
    · subst hk0
      obtain ⟨x, hx⟩ : ∃ x, T[0]? = some x := ⟨T[0]'(by rw [← HN.out]; exact hT), List.getElem?_eq_getElem (by rw [← HN.out]; exact hT)⟩
      have hsx := HAT.out 0 x (by omega) hx
      by_cases hxc : x = c
      · have ht := (HCX.out x).1
        rw [show (x == c) = true by rw [beq_iff_eq]; exact hxc] at ht
        have hfin := Lib.hid (hdown.out.hit (by rw [hx, hxc]))
        clear hxc hx hdown
        go_wp2
        go_ret
        exact ⟨⟨1, by simp, hfin.out⟩, rfl⟩
      · have ht := (HCX.out x).1
        rw [show (x == c) = false by rw [beq_eq_false_iff_ne]; exact hxc] at ht
        have hfin := Lib.hid (hdown.out.miss (by rw [hx]; intro e; injection e with e; exact hxc e))
        clear hxc hx hdown
        go_wp2
        go_ret
        exact ⟨⟨0, by simp, hfin.out⟩, rfl⟩
    · have hkp : (0 : Int) < (k : Int) := by omega
      obtain ⟨k', rfl⟩ : ∃ k', k = k' + 1 := ⟨k - 1, by omega⟩
      obtain ⟨hcell, hpb⟩ := HE.out k' (by omega)
      have hEk := hpb.1
      have HPB := Lib.hid hpb
      clear hpb
      by_cases hfull : k' + 1 = n
      · have hst := Lib.hid (hdown.out.step HPB.out (.inl (by rw [← HN.out]; exact hfull)))
        clear hdown
        subst hfull
        go_wp2
        go_roundw
        case rel => exact ⟨E k', by omega, rfl, hst.out, by first | rfl | trivial⟩
        case measure => simp [RowKit.intOf]; omega
      · have hlt : k' + 1 < n := by omega
        obtain ⟨x, hx⟩ : ∃ x, T[k' + 1]? = some x := ⟨T[k' + 1]'(by rw [← HN.out]; exact hlt), List.getElem?_eq_getElem (by rw [← HN.out]; exact hlt)⟩
        have hsx := HAT.out (k' + 1) x (by omega) hx
        by_cases hxc : x = c
        · have ht := (HCX.out x).1
          have ht2 := (HCX.out x).2
          rw [show (x == c) = true by rw [beq_iff_eq]; exact hxc] at ht
          rw [show (x != c) = false by rw [bne_eq_false_iff_eq]; exact hxc] at ht2
          have hfin := Lib.hid (hdown.out.hit (by rw [hx, hxc]))
          clear hxc hx hdown
          go_wp2
          go_ret
          exact ⟨⟨k' + 2, by simp; omega, hfin.out⟩, rfl⟩
        · have ht2 := (HCX.out x).2
          rw [show (x != c) = true by rw [bne_iff_ne]; exact hxc] at ht2
          have hst := Lib.hid (hdown.out.step HPB.out (.inr (by rw [hx]; intro e; injection e with e; exact hxc e)))
          clear hxc hx hdown
          go_wp2
          go_roundw
          case rel => exact ⟨E k', by omega, rfl, hst.out, by first | rfl | trivial⟩
          case measure => simp [RowKit.intOf]; omega
end Go.Proofs.YtdgjkhldlmhedaaDoor
