/-
  Contract of the reference's escape, where no half of a character stands.
  The walk of PrinterPlain.
  Contracts of the reference's space and Space.
  Contract of the reference's unicode, where two halves of a character stand.
-/
import Derived.Test.YtcanfiaooabocaaGreatDoorQWru
import Derived.Test.YtcanfiaooabocaaGreatDoorQWal
set_option linter.unusedVariables false
set_option linter.unusedSimpArgs false
namespace Go.Proofs.YtcanfiaooabocaaGreatDoor
open Go.RowKit Go.Lib

theorem rAt_out {α β : Type} {F : Rd1 α} {G : α → Rd1 β} {b : List UInt8} {p q : Nat} {y : β} (h : rAt F G b p = .ok y q) : ∃ a q1, F b p = .ok a q1 ∧ G a b q1 = .ok y q := by
  unfold rAt at h
  cases hF : F b p with
  | bad q1 e => rw [hF] at h; cases h
  | ok a q1 => rw [hF] at h; exact ⟨a, q1, rfl, h⟩
theorem rPeek_out {b : List UInt8} {p q : Nat} {c : UInt8} (h : rPeek b p = .ok c q) : b[p]? = some c ∧ q = p := by
  unfold rPeek at h
  cases hc : b[p]? with
  | none => rw [hc] at h; cases h
  | some d => rw [hc] at h; injection h with h1 h2; exact ⟨by rw [h1], h2.symm⟩
theorem rHex_at : ∀ (k v : Nat) {M : List UInt8} {p n q : Nat}, rHex k v M p = .ok n q → q = p + k ∧ n < (v + 1) * 16 ^ k
  | 0, v, M, p, n, q, h => by unfold rHex rPure at h; injection h with h1 h2; subst h1 h2; exact ⟨rfl, by omega⟩
  | k + 1, v, M, p, n, q, h => by
    obtain ⟨c, d, h1, h2, h3⟩ := rHex_step h
    obtain ⟨g1, g2⟩ := rHex_at k _ h3
    have hd : d < 16 := by rcases hexOf_cases h2 with h | h | h <;> omega
    refine ⟨by omega, Nat.lt_of_lt_of_le g2 ?_⟩
    rw [Nat.pow_succ, Nat.mul_comm (16 ^ k) 16, ← Nat.mul_assoc]
    exact Nat.mul_le_mul_right _ (by omega)
theorem rMust_out {f : Nat} {i : Bool} {b : List UInt8} {p q : Nat} {u : Unit} (h : rMust f i b p = .ok u q) : i = true ∧ q = p := by
  unfold rMust at h
  cases i with
  | true => simp at h; exact ⟨rfl, h.symm⟩
  | false => simp at h
theorem rLow_at {f : Nat} {b : List UInt8} {p q z : Nat} (h : rLow f b p = .ok z q) : p < q := by
  unfold rLow at h
  obtain ⟨c, q1, h1, h2⟩ := rAt_out h
  obtain ⟨-, rfl⟩ := rPeek_out h1
  obtain ⟨u, q2, h3, h4⟩ := rAt_out h2
  obtain ⟨-, rfl⟩ := rMust_out h3
  obtain ⟨d, q3, h5, h6⟩ := rAt_out (p := q2 + 1) h4
  obtain ⟨-, rfl⟩ := rPeek_out h5
  obtain ⟨u, q4, h7, h8⟩ := rAt_out h6
  obtain ⟨-, rfl⟩ := rMust_out h7
  obtain ⟨x, q5, h9, h10⟩ := rAt_out (p := q2 + 1 + 1) h8
  have g1 := (rHex_at _ _ h9).1
  obtain ⟨u, q6, h11, h12⟩ := rAt_out h10
  obtain ⟨-, rfl⟩ := rMust_out h11
  obtain ⟨y, q7, h13, h14⟩ := rAt_out h12
  have g2 := (rHex_at _ _ h13).1
  obtain ⟨u, q8, h15, h16⟩ := rAt_out h14
  obtain ⟨-, rfl⟩ := rMust_out h15
  obtain ⟨v, q9, h17, h18⟩ := rAt_out h16
  have g3 := (rHex_at _ _ h17).1
  unfold rPure at h18
  injection h18 with _ h19
  omega
def escN : List Nat := [34, 92, 47, 98, 102, 110, 114, 116]
def escO : List Nat := [34, 92, 47, 8, 12, 10, 13, 9]
theorem escOf_out {d : UInt8} {z : Int} (h : escOf d = some z) : ∃ i, i < 8 ∧ nth escN i = d.toNat ∧ (nth escO i : Int) = z ∧ ∀ j, j < i → nth escN j ≠ d.toNat := by
  unfold escOf at h
  have key : ∀ (v : UInt8) {a b : Option Int}, (if d == v then a else b) = some z → (d = v ∧ a = some z) ∨ (d ≠ v ∧ b = some z) := fun v a b h => by
    by_cases e : d = v
    · subst e; simp at h; exact .inl ⟨rfl, h⟩
    · rw [if_neg (by simpa using e)] at h; exact .inr ⟨e, h⟩
  rcases key 34 h with ⟨rfl, h⟩ | ⟨-, h⟩
  · injection h with h; subst h; exact ⟨0, by decide, rfl, rfl, fun j hj => absurd hj (by omega)⟩
  rcases key 92 h with ⟨rfl, h⟩ | ⟨-, h⟩
  · injection h with h; subst h; exact ⟨1, by decide, rfl, rfl, by decide⟩
  rcases key 47 h with ⟨rfl, h⟩ | ⟨-, h⟩
  · injection h with h; subst h; exact ⟨2, by decide, rfl, rfl, by decide⟩
  rcases key 98 h with ⟨rfl, h⟩ | ⟨-, h⟩
  · injection h with h; subst h; exact ⟨3, by decide, rfl, rfl, by decide⟩
  rcases key 102 h with ⟨rfl, h⟩ | ⟨-, h⟩
  · injection h with h; subst h; exact ⟨4, by decide, rfl, rfl, by decide⟩
  rcases key 110 h with ⟨rfl, h⟩ | ⟨-, h⟩
  · injection h with h; subst h; exact ⟨5, by decide, rfl, rfl, by decide⟩
  rcases key 114 h with ⟨rfl, h⟩ | ⟨-, h⟩
  · injection h with h; subst h; exact ⟨6, by decide, rfl, rfl, by decide⟩
  rcases key 116 h with ⟨rfl, h⟩ | ⟨-, h⟩
  · injection h with h; subst h; exact ⟨7, by decide, rfl, rfl, by decide⟩
  · cases h
end Go.Proofs.YtcanfiaooabocaaGreatDoor

namespace Go.Proofs.YtcanfiaooabocaaGreatDoor
open Go.RowKit Go.Lib

theorem u8n {c : UInt8} {n : Nat} (h : n < 256) : c = n.toUInt8 ↔ (c.toNat : Int) = n := by
  constructor
  · rintro rfl
    show ((n % 256 : Nat) : Int) = n
    omega
  · intro e
    apply UInt8.toNat.inj
    show c.toNat = n % 256
    omega

theorem is34 {c : UInt8} : c = 34 ↔ (c.toNat : Int) = 34 := u8n (n := 34) (by omega)
theorem is92 {c : UInt8} : c = 92 ↔ (c.toNat : Int) = 92 := u8n (n := 92) (by omega)
end Go.Proofs.YtcanfiaooabocaaGreatDoor

namespace Go.Proofs.YtcanfiaooabocaaGreatDoor
open Go.RowKit Go.Lib

set_option maxRecDepth 100000 in
theorem rsp1_c (x : UInt8) (w : World) : Calls Tryz.prog 54 #[.int .u8 (x.toNat : Int)] w fun e w' => e = .returned (.bool (isWs x)) ∧ w = w' := by
  have h1 : isWs x = (((x.toNat : Int) == 32) || ((x.toNat : Int) == 9) || ((x.toNat : Int) == 10) || ((x.toNat : Int) == 13)) := by
    have key : ∀ n : Nat, n < 256 → (x == n.toUInt8) = ((x.toNat : Int) == (n : Int)) := fun n hn => by
      rw [Bool.eq_iff_iff, beq_iff_eq, beq_iff_eq]
      exact u8n hn
    unfold isWs
    have a := key 32 (by omega); have b := key 9 (by omega); have c := key 10 (by omega); have d := key 13 (by omega)
    rw [show (32 : UInt8) = (32 : Nat).toUInt8 from rfl, show (9 : UInt8) = (9 : Nat).toUInt8 from rfl, show (10 : UInt8) = (10 : Nat).toUInt8 from rfl, show (13 : UInt8) = (13 : Nat).toUInt8 from rfl, a, b, c, d]
    rfl
  rw [h1]
  clear h1
  generalize (x.toNat : Int) = z
  go_enter Tryz.func54, Tryz.ntmps54
  by_cases g1 : z = 32
  · subst g1; go_wp2; go_ret; exact ⟨rfl, rfl⟩
  · have e1 : (z == 32) = false := by rw [beq_eq_false_iff_ne]; exact g1
    by_cases g2 : z = 9
    · subst g2; go_wp2; go_ret; exact ⟨rfl, rfl⟩
    · have e2 : (z == 9) = false := by rw [beq_eq_false_iff_ne]; exact g2
      by_cases g3 : z = 10
      · subst g3; go_wp2; go_ret; exact ⟨rfl, rfl⟩
      · have e3 : (z == 10) = false := by rw [beq_eq_false_iff_ne]; exact g3
        go_wp2
        go_ret
        exact ⟨by simp [e1, e2, e3], rfl⟩
set_option maxRecDepth 100000 in
set_option maxHeartbeats 2000000 in
theorem rSpace_c {M : List UInt8} {A : Option Addr} {cp p : Nat} (w : World) (hc : ∀ j x, M[j]? = some x → ∃ g off, A = some ⟨g, off, none⟩ ∧ w.cell? ⟨g, off + j, none⟩ = some (.int .u8 (x.toNat : Int))) (hl : M.length ≤ 65536) (hp : p ≤ M.length) :
    Calls Tryz.prog 33 #[.slice A M.length cp, .int .i64 (p : Int)] w fun e w' => e = .returned (.int .i64 ((p + ((M.drop p).takeWhile isWs).length : Nat) : Int)) ∧ w = w' := by
  obtain ⟨E, hE⟩ : ∃ E, p + ((M.drop p).takeWhile isWs).length = E := ⟨_, rfl⟩
  rw [hE]
  have HC := Lib.hid hc
  clear hc
  have hm : max (0 : Int) (p : Int) = (p : Int) := by omega
  have h0 : Hid (p + ((M.drop p).takeWhile isWs).length = E) := hE
  clear hE
  go_enter Tryz.func33, Tryz.ntmps33
  go_wp2_with fail
  try rw [hm]
  go_loop [1] (fun iv => ∃ k : Nat, k ≤ M.length ∧ iv = .int .i64 (k : Int) ∧ Hid (k + ((M.drop k).takeWhile isWs).length = E)) (fun iv => M.length - (RowKit.intOf iv).toNat)
  case atStart => exact ⟨p, hp, rfl, h0⟩
  case round =>
    clear h0 hm
    obtain ⟨k, hk, rfl, hr⟩ := hrel
    by_cases hlt : k < M.length
    · obtain ⟨x, hx⟩ : ∃ x, M[k]? = some x := ⟨_, List.getElem?_eq_getElem hlt⟩
      obtain ⟨g, off, rfl, hcell⟩ := HC.out k x hx
      have hd : M.drop k = x :: M.drop (k + 1) := by rw [List.drop_eq_getElem_cons hlt]; rw [List.getElem?_eq_getElem hlt] at hx; injection hx with hx; rw [hx]
      have hr2 := hr.out
      rw [hd] at hr2
      have hsp := rsp1_c x w
      clear hr hd hx
      cases hw : isWs x with
      | true =>
        rw [hw] at hsp
        rw [List.takeWhile_cons_of_pos hw, List.length_cons] at hr2
        have hn : Hid (k + 1 + ((M.drop (k + 1)).takeWhile isWs).length = E) := by show _ = _; omega
        have HSP := Lib.hid hsp
        clear hr2 hsp hw
        go_wp2_with fail
        refine HSP.out.mono ?_
        rintro e9 w9 ⟨rfl, rfl⟩
        go_wp2
        exact ⟨⟨k + 1, by omega, by go_num, hn⟩, by simp [RowKit.intOf]; omega⟩
      | false =>
        rw [hw] at hsp
        rw [List.takeWhile_cons_of_neg (by rw [hw]; decide), List.length_nil] at hr2
        have hn : k = E := hr2
        subst hn
        have HSP := Lib.hid hsp
        clear hr2 hsp hw
        go_wp2_with fail
        refine HSP.out.mono ?_
        rintro e9 w9 ⟨rfl, rfl⟩
        go_wp2
        go_ret
        exact ⟨rfl, rfl⟩
    · have hn : k = E := by
        have := hr.out
        rw [List.drop_eq_nil_of_le (by omega)] at this
        exact this
      subst hn
      go_wp2
      go_ret
      exact ⟨rfl, rfl⟩
end Go.Proofs.YtcanfiaooabocaaGreatDoor

namespace Go.Proofs.YtcanfiaooabocaaGreatDoor
open Go.RowKit Go.Lib

theorem rHex_more : ∀ (k u w : Nat) {M : List UInt8} {p n q : Nat}, rHex k u M p = .ok n q → rHex k (u + w) M p = .ok (n + w * 16 ^ k) q
  | 0, u, w, M, p, n, q, h => by
    unfold rHex rPure at h ⊢
    injection h with h1 h2
    subst h1 h2
    simp
  | k + 1, u, w, M, p, n, q, h => by
    obtain ⟨c, d, h1, h2, h3⟩ := rHex_step h
    have h4 := rHex_more k (u * 16 + d) (w * 16) h3
    unfold rHex rAt rPeek
    rw [h1]
    simp only [RR.bind, h2]
    rw [show (u + w) * 16 + d = u * 16 + d + w * 16 by omega, h4, Nat.pow_succ, Nat.mul_assoc, Nat.mul_comm 16 (16 ^ k)]
theorem rHex_mk {k v p : Nat} {M : List UInt8} {c : UInt8} {d : Nat} {r : RR Nat} (h1 : M[p]? = some c) (h2 : hexOf c = some d) (h3 : rHex k (v * 16 + d) M (p + 1) = r) : rHex (k + 1) v M p = r := by
  unfold rHex rAt rPeek
  rw [h1]
  simp only [RR.bind, h2]
  exact h3
theorem rHex_one {p n q : Nat} {M : List UInt8} (h : rHex 1 0 M p = .ok n q) : ∃ c, M[p]? = some c ∧ hexOf c = some n ∧ q = p + 1 := by
  obtain ⟨c, d, h1, h2, h3⟩ := rHex_step h
  unfold rHex rPure at h3
  injection h3 with h4 h5
  refine ⟨c, h1, ?_, h5.symm⟩
  rw [h2, ← h4]; simp
theorem rLow_out {f : Nat} {b : List UInt8} {p q z : Nat} (h : rLow f b p = .ok z q) : b[p]? = some 92 ∧ b[p + 1]? = some 117 ∧ q = p + 6 ∧ rHex 4 0 b (p + 2) = .ok z (p + 6) ∧ 56320 ≤ z ∧ z ≤ 57343 := by
  unfold rLow at h
  obtain ⟨c, q1, h1, h2⟩ := rAt_out h
  obtain ⟨p1, rfl⟩ := rPeek_out h1
  obtain ⟨u, q2, h3, h4⟩ := rAt_out h2
  obtain ⟨m1, rfl⟩ := rMust_out h3
  obtain ⟨d, q3, h5, h6⟩ := rAt_out (p := q2 + 1) h4
  obtain ⟨p2, rfl⟩ := rPeek_out h5
  obtain ⟨u, q4, h7, h8⟩ := rAt_out h6
  obtain ⟨m2, rfl⟩ := rMust_out h7
  obtain ⟨x, q5, h9, h10⟩ := rAt_out (p := q2 + 1 + 1) h8
  obtain ⟨c1, g1, g2, rfl⟩ := rHex_one h9
  obtain ⟨u, q6, h11, h12⟩ := rAt_out h10
  obtain ⟨m3, rfl⟩ := rMust_out h11
  obtain ⟨y, q7, h13, h14⟩ := rAt_out h12
  obtain ⟨c2, g3, g4, rfl⟩ := rHex_one h13
  obtain ⟨u, q8, h15, h16⟩ := rAt_out h14
  obtain ⟨m4, rfl⟩ := rMust_out h15
  obtain ⟨v, q9, h17, h18⟩ := rAt_out h16
  obtain ⟨g5, g6⟩ := rHex_at _ _ h17
  unfold rPure at h18
  injection h18 with h19 h20
  have hx : x = 13 := by simpa using m3
  have hy : 220 ≤ x * 16 + y := by simpa using m4
  have hy16 : y < 16 := by rcases hexOf_cases g4 with h | h | h <;> omega
  have hc : c = 92 := by simpa using m1
  have hd : d = 117 := by simpa using m2
  subst hc hd
  refine ⟨p1, p2, by omega, ?_, by omega, by omega⟩
  have h21 := rHex_more 2 0 (x * 16 + y) h17
  rw [Nat.zero_add] at h21
  have h22 := rHex_mk (v := 0 * 16 + x) (k := 2) g3 g4 (r := .ok z (q2 + 6)) (by rw [show (0 * 16 + x) * 16 + y = x * 16 + y by omega, h21, ← h19, g5]; congr 1; omega)
  exact rHex_mk g1 g2 h22
theorem rHex_drop : ∀ (k v a : Nat) {M : List UInt8} {p n q : Nat}, rHex k v M (a + p) = .ok n q → rHex k v (M.drop a) p = .ok n (p + k)
  | 0, v, a, M, p, n, q, h => by
    unfold rHex rPure at h ⊢
    injection h with h1 h2
    subst h1
    rfl
  | k + 1, v, a, M, p, n, q, h => by
    obtain ⟨c, d, h1, h2, h3⟩ := rHex_step h
    have h4 := rHex_drop k (v * 16 + d) a (p := p + 1) (by rw [← Nat.add_assoc]; exact h3)
    exact rHex_mk (by rw [List.getElem?_drop]; exact h1) h2 (by rw [h4]; congr 1; omega)
set_option maxRecDepth 4000000 in
set_option maxHeartbeats 4000000 in
theorem runi2_c {B : Nat} {L : List UInt8} {A : Option Addr} {c rb : Nat} {w : World} {p n z : Nat} (E : REnv B L A c rb w p) (h : rHex 4 0 L (p + 2) = .ok n (p + 6)) (hn : 55296 ≤ n) (hn2 : n < 56320) (h92 : L[p + 6]? = some 92) (h117 : L[p + 7]? = some 117) (hlow : rHex 4 0 L (p + 8) = .ok z (p + 12)) (hz1 : 56320 ≤ z) (hz2 : z ≤ 57343) (hq : p + 12 ≤ L.length) :
    Calls Tryz.prog 138 #[.pointer (some ⟨rb, 0, none⟩)] w fun e w' => ∃ g m, e = .returned (.slice (some ⟨g, 0, none⟩) m m) ∧ w.heap.size ≤ g ∧ RowV w' w.heap.size 5 (some ⟨g, 0, none⟩) m m (bs8 (encodeRune (65536 + ((n : Int) - 55296) * 1024 + ((z : Int) - 56320)))) ∧ REnv B L A c rb w' (p + 12) ∧ But (fun k => k = rb) w w' := by
  have mixed : Tryz.prog.follows .mixedOrders = true := by kernel_rfl
  obtain ⟨g, off, rfl, hgB, hc6⟩ := E.oct (p + 6) 92 h92
  obtain ⟨c0, c1, c2⟩ := E.cells
  have f1 := E.frozen 1
  have hfit := E.fits
  have hcap := E.cap
  have hbase := E.base
  have hx := rhex_c (cp := c) w (fun j x hx => by obtain ⟨g, off, h1, h2, h3⟩ := E.oct j x hx; exact ⟨g, off, h1, h3⟩) hfit (by omega) (show rHex 4 0 L (p + 2) = .ok n (p + 2 + 4) from h)
  have HX := Lib.hid hx
  have HE := Lib.hid E
  have hch : isCh (65536 + ((n : Int) - 55296) * 1024 + ((z : Int) - 56320)) := by unfold isCh; omega
  clear E h hx
  go_enter Tryz.func138, Tryz.ntmps138
  go_wp2_with fail
  refine HX.out.mono ?_
  rintro e9 w1 ⟨rfl, rfl⟩
  have hE2 := HE.out.to (q := p + 6) (by omega)
  have hb2 : But (fun k => k = rb) w (w.setCell ⟨rb, 1, none⟩ (.int .i64 ((p + 6 : Nat) : Int))) := But.setCell (C := fun k => k = rb) (p := ⟨rb, 1, none⟩) (But.refl _ _) (.inl rfl) _
  have hs2 : (w.setCell ⟨rb, 1, none⟩ (.int .i64 ((p + 6 : Nat) : Int))).heap.size = w.heap.size := by simp [World.setCell]
  have e6 : ((p + 6 : Nat) : Int) = (p : Int) + 6 := by omega
  rw [e6] at hE2 hb2 hs2
  have HE2 := Lib.hid hE2
  have HB2 := Lib.hid hb2
  clear hE2 hb2 e6
  go_upto_region 13 with fail
  generalize (w.setCell ⟨rb, 1, none⟩ (.int .i64 ((p : Int) + 6))) = w2 at *
  clear c0 c1 c2 f1 hc6
  obtain ⟨c0, c1, -⟩ := HE2.out.cells
  have f1 := HE2.out.frozen 1
  go_region_o
  have hld : (L.drop (p + 6)).length = L.length - (p + 6) := List.length_drop
  have hx2 := rhex_c (M := L.drop (p + 6)) (A := some ⟨g, off + (p + 6), none⟩) (cp := c - (p + 6)) (i := 2) w2.drew
    (fun j x hx => by
      rw [List.getElem?_drop] at hx
      obtain ⟨g2, off2, hA, -, hcc⟩ := HE2.out.oct _ x hx
      injection hA with hA
      injection hA with hA1 hA2
      subst hA1 hA2
      refine ⟨g, off + (p + 6), rfl, ?_⟩
      rw [show off + (p + 6) + j = off + (p + 6 + j) by omega]
      exact hcc) (by omega) (by omega) (rHex_drop 4 0 (p + 6) (p := 2) (by rw [show p + 6 + 2 = p + 8 by omega]; exact hlow))
  rw [hld] at hx2
  have k0 : w2.cell? ⟨g, off + (p + 6), none⟩ = some (.int .u8 92) := by
    obtain ⟨g2, off2, hA, -, hcc⟩ := HE2.out.oct _ _ h92
    injection hA with hA
    injection hA with hA1 hA2
    subst hA1 hA2
    exact hcc
  have k1 : w2.cell? ⟨g, off + (p + 6) + 1, none⟩ = some (.int .u8 117) := by
    obtain ⟨g2, off2, hA, -, hcc⟩ := HE2.out.oct _ _ h117
    injection hA with hA
    injection hA with hA1 hA2
    subst hA1 hA2
    rw [show off + (p + 6) + 1 = off + (p + 7) by omega]
    exact hcc
  have HX2 := Lib.hid hx2
  have HLD := Lib.hid hld
  have hl6 : 6 ≤ L.length - (p + 6) := by omega
  have hcl : L.length - (p + 6) ≤ c - (p + 6) := by omega
  have hgt2 : (2 : Int) < ((L.length - (p + 6) : Nat) : Int) := by omega
  clear hx2 hld h92 h117 hlow
  go_wp2_with fail
  refine HX2.out.mono ?_
  rintro e9 w3 ⟨rfl, rfl⟩
  have hED : REnv B L (some ⟨g, off, none⟩) c rb w2.drew (p + 6) := HE2.out.stay (C := fun _ => False) (But.refl _ _).drew (fun k h => h.elim)
  have hBD : But (fun k => k = rb) w w2.drew := HB2.out.drew
  have hsD : w2.drew.heap.size = w.heap.size := hs2
  have d0 : w2.drew.cell? ⟨g, off + (p + 6), none⟩ = some (.int .u8 92) := k0
  have d1 : w2.drew.cell? ⟨g, off + (p + 6) + 1, none⟩ = some (.int .u8 117) := k1
  generalize w2.drew = w4 at *
  clear c0 c1 f1 k0 k1
  obtain ⟨c0, c1, c2⟩ := hED.cells
  have f1 := hED.frozen 1
  have hE5 := hED.to (q := p + 12) (by omega)
  have hb5 : But (fun k => k = rb) w4 (w4.setCell ⟨rb, 1, none⟩ (.int .i64 ((p + 12 : Nat) : Int))) := But.setCell (C := fun k => k = rb) (p := ⟨rb, 1, none⟩) (But.refl _ _) (.inl rfl) _
  have hs5 : (w4.setCell ⟨rb, 1, none⟩ (.int .i64 ((p + 12 : Nat) : Int))).heap.size = w4.heap.size := by simp [World.setCell]
  have e12 : ((p + 12 : Nat) : Int) = (((p + 6 : Nat) : Int)) + 6 := by omega
  rw [e12] at hE5 hb5 hs5
  obtain ⟨R, hR⟩ : ∃ R, L.length - (p + 6) = R := ⟨_, rfl⟩
  rw [hR] at hl6 hcl hgt2 ⊢
  have hge2 : (2 : Int) ≤ (R : Int) := by omega
  have hi0 : (0 : Int) < (R : Int) := by omega
  have hi1 : (1 : Int) < (R : Int) := by omega
  have hne0 : ((R : Int) == 0) = false := by rw [beq_eq_false_iff_ne]; omega
  have hne1 : ((R : Int) == 1) = false := by rw [beq_eq_false_iff_ne]; omega
  have HE5 := Lib.hid hE5
  have HB5 := Lib.hid (hBD.trans hb5)
  clear hE5 hb5 hED hBD e12 HX2 HX HE HE2 HB2 HLD hR
  go_upto_region 17 with fail
  go_upto_region 18 with fail
  go_upto_region 20 with fail
  generalize (4 == Go.RowKit.wrap64 ((R : Int) - 2)) = b6
  have hzi1 : (56320 : Int) ≤ (z : Int) := by omega
  have hzi2 : (z : Int) ≤ 57343 := by omega
  have hcp : ((p + 6 : Nat) : Int) = (p : Int) + 6 := by omega
  have hez : (65536 + ((n : Int) - 55296) * 1024 + ((z : Int) - 56320)) = 65536 + ((n : Int) - 55296) * 1024 + (z : Int) - 56320 := by omega
  rw [hez] at hch
  have HEZ := Lib.hid hez
  clear hez
  rw [hcp] at HE5 HB5 hs5
  go_wp2_with fail
  generalize (w4.setCell ⟨rb, 1, none⟩ (.int .i64 ((p : Int) + 6 + 6))) = w5 at *
  refine (Octets_c _ w5 hch).mono ?_
  rintro e9 w6 ⟨m, rfl, hrow, hb6⟩
  have HROW := Lib.hid hrow
  have HB6 := Lib.hid hb6
  clear hrow hb6
  go_wp2_with fail
  go_ret
  rw [HEZ.out]
  have hs9 : w5.heap.size = w.heap.size := hs5.trans hsD
  try rw [hs9] at HROW
  exact ⟨_, m, rfl, Nat.le_refl _, HROW.out, HE5.out.stay (C := fun _ => False) (But.of HB6.out) (fun k h => h.elim), HB5.out.trans (But.of HB6.out)⟩
end Go.Proofs.YtcanfiaooabocaaGreatDoor
