/-
  format, pure: texts cut into pieces of so many octets; 64 digits and back. Plain lemmas.
-/
import Derived.Test.YtnfeifafocemaaaDoorCUpure
import Derived.Lib.Bytealg
set_option linter.unusedVariables false
set_option linter.unusedSimpArgs false
namespace Go.Proofs.YtnfeifafocemaaaDoor
open Go.RowKit Go.Lib

/-- A text in pieces of k octets. -/
def chkF (k : Nat) (L : List UInt8) : List (List UInt8) := (List.range ((L.length + k - 1) / k)).map fun i => (L.drop (i * k)).take k
theorem chkF_nil {k : Nat} (hk : 0 < k) : chkF k [] = [] := by
  unfold chkF
  have h : (([] : List UInt8).length + k - 1) / k = 0 := Nat.div_eq_of_lt (by simp; omega)
  rw [h]; rfl
theorem chkF_small {k : Nat} {L : List UInt8} (h0 : L ≠ []) (h : L.length ≤ k) : chkF k L = [L] := by
  have h1 : 0 < L.length := List.length_pos_iff.2 h0
  unfold chkF
  have h2 : (L.length + k - 1) / k = 1 := by
    have e : L.length + k - 1 = (L.length - 1) + k := by omega
    rw [e, Nat.add_div_right _ (by omega), Nat.div_eq_of_lt (by omega)]
  rw [h2]
  show [(L.drop (0 * k)).take k] = [L]
  rw [Nat.zero_mul, List.drop_zero, List.take_of_length_le h]
theorem chkF_cons {k : Nat} {a L : List UInt8} (hk : 0 < k) (ha : a.length = k) : chkF k (a ++ L) = a :: chkF k L := by
  unfold chkF
  have h2 : ((a ++ L).length + k - 1) / k = (L.length + k - 1) / k + 1 := by
    have e : (a ++ L).length + k - 1 = (L.length + k - 1) + k := by rw [List.length_append]; omega
    rw [e, Nat.add_div_right _ hk]
  rw [h2, List.range_succ_eq_map, List.map_cons, List.map_map]
  refine congr (congrArg _ ?_) ?_
  · rw [Nat.zero_mul, List.drop_zero, ← ha, List.take_left]
  · refine List.map_congr_left fun i _ => ?_
    show ((a ++ L).drop ((i + 1) * k)).take k = _
    have e : (i + 1) * k = a.length + i * k := by rw [Nat.succ_mul, ha]; omega
    rw [e, List.drop_append, List.drop_eq_nil_of_le (by omega), Nat.add_sub_cancel_left, List.nil_append]
/-- By pieces: what holds of a short text, and goes on over a whole piece ahead, holds of all. -/
theorem chk_ind {k : Nat} (hk : 0 < k) {p : List UInt8 → Prop} (h0 : ∀ L, L.length < k → p L) (h1 : ∀ a L, a.length = k → p L → p (a ++ L)) (L : List UInt8) : p L := by
  obtain ⟨n, hn⟩ : ∃ n, L.length ≤ n := ⟨_, Nat.le_refl _⟩
  induction n generalizing L with
  | zero => exact h0 L (by omega)
  | succ n ih =>
    by_cases h : L.length < k
    · exact h0 L h
    · rw [← List.take_append_drop k L]
      exact h1 _ _ (by rw [List.length_take]; omega) (ih _ (by rw [List.length_drop]; omega))
theorem chkF_one (L : List UInt8) : chkF 1 L = L.map fun c => [c] := by
  induction L with
  | nil => exact chkF_nil (by omega)
  | cons c L ih =>
    have := chkF_cons (k := 1) (a := [c]) (L := L) (by omega) rfl
    rw [List.map_cons, ← ih, ← this]; rfl
theorem chkF_mem {k : Nat} (hk : 0 < k) {L c : List UInt8} (h : c ∈ chkF k L) : 1 ≤ c.length ∧ c.length ≤ k := by
  obtain ⟨i, hi, rfl⟩ := List.mem_map.1 h
  rw [List.mem_range] at hi
  have h2 : i * k < L.length := by
    have h3 : (i + 1) * k ≤ L.length + k - 1 := Nat.le_trans (Nat.mul_le_mul_right k hi) (Nat.div_mul_le_self _ _)
    rw [Nat.succ_mul] at h3; omega
  rw [List.length_take, List.length_drop]
  omega

/-- The 64 digits. -/
def digF : List UInt8 := [65, 66, 67, 68, 69, 70, 71, 72, 73, 74, 75, 76, 77, 78, 79, 80, 81, 82, 83, 84, 85, 86, 87, 88, 89, 90, 97, 98, 99, 100, 101, 102, 103, 104, 105, 106, 107, 108, 109, 110, 111, 112, 113, 114, 115, 116, 117, 118, 119, 120, 121, 122, 48, 49, 50, 51, 52, 53, 54, 55, 56, 57, 43, 47]
def at64 (n : Nat) : UInt8 := digF.getD n 0
set_option maxRecDepth 100000 in
theorem at64_ok : ∀ n, n < 64 → at64 n ≠ 61 ∧ (at64 n).toNat < 128 ∧ at64 n ∈ digF ∧ indexByte digF (at64 n) = (n : Int) := by decide
/-- What the octets of a piece tell, k of them. -/
def bvF (c : List UInt8) : Nat → Nat
  | 0 => 0
  | k + 1 => bvF c k * 256 + (c.getD k 0).toNat
def dgF (c : List UInt8) (i : Nat) : UInt8 := if c.length < i then 61 else at64 (bvF c 3 / 2 ^ (18 - 6 * i) % 64)
def dig3 (c : List UInt8) : List UInt8 := [dgF c 0, dgF c 1, dgF c 2, dgF c 3]
def enc64 (L : List UInt8) : List UInt8 := (chkF 3 L).flatMap dig3
/-- What the digits of a piece tell. -/
def qvF (d : List UInt8) : Nat → Nat
  | 0 => 0
  | k + 1 => qvF d k * 64 + (if k < d.length then (indexByte digF (d.getD k 0)).toNat else 0)
def oct3 (d : List UInt8) : List UInt8 := [UInt8.ofNat (qvF d 4 / 65536), UInt8.ofNat (qvF d 4 / 256), UInt8.ofNat (qvF d 4)].take (d.length * 6 / 8)
/-- The digits of a piece that are no =. -/
def dgsF (c : List UInt8) : List UInt8 := (dig3 c).take (c.length + 1)
theorem bv_lt (c : List UInt8) : ∀ k, bvF c k < 256 ^ k
  | 0 => by simp [bvF]
  | k + 1 => by
    have h := bv_lt c k
    have h2 := (c.getD k 0).toNat_lt
    show bvF c k * 256 + (c.getD k 0).toNat < _
    rw [Nat.pow_succ]
    omega
theorem oct_digs (c : List UInt8) (h1 : 1 ≤ c.length) (h3 : c.length ≤ 3) : oct3 (dgsF c) = c := by
  have key : ∀ n, (indexByte digF (at64 (n % 64))).toNat = n % 64 := fun n => by rw [(at64_ok _ (Nat.mod_lt n (by omega))).2.2.2]; rfl
  rcases c with _ | ⟨a, _ | ⟨b, _ | ⟨d, _ | ⟨e, r⟩⟩⟩⟩
  · simp at h1
  · have ha := a.toNat_lt
    have e1 : dgsF [a] = [at64 (bvF [a] 3 / 262144 % 64), at64 (bvF [a] 3 / 4096 % 64)] := rfl
    have e2 : bvF [a] 3 = a.toNat * 65536 := by show ((0 * 256 + a.toNat) * 256 + 0) * 256 + 0 = _; omega
    rw [e1, e2]
    unfold oct3
    have e3 : ∀ x y : Nat, qvF [at64 (x % 64), at64 (y % 64)] 4 = (x % 64) * 262144 + (y % 64) * 4096 := fun x y => by
      show (((0 * 64 + (indexByte digF (at64 (x % 64))).toNat) * 64 + (indexByte digF (at64 (y % 64))).toNat) * 64 + 0) * 64 + 0 = _
      rw [key, key]; omega
    rw [e3]
    simp only [List.length_cons, List.length_nil, Nat.reduceAdd, Nat.reduceMul, Nat.reduceDiv, List.take_succ_cons, List.take_zero]
    show [UInt8.ofNat _] = [a]
    simp only [List.cons.injEq, and_true]
    refine UInt8.toNat_inj.1 ?_
    rw [UInt8.toNat_ofNat']
    omega
  · have ha := a.toNat_lt
    have hb := b.toNat_lt
    have e1 : dgsF [a, b] = [at64 (bvF [a, b] 3 / 262144 % 64), at64 (bvF [a, b] 3 / 4096 % 64), at64 (bvF [a, b] 3 / 64 % 64)] := rfl
    have e2 : bvF [a, b] 3 = a.toNat * 65536 + b.toNat * 256 := by show ((0 * 256 + a.toNat) * 256 + b.toNat) * 256 + 0 = _; omega
    rw [e1, e2]
    unfold oct3
    have e3 : ∀ x y z : Nat, qvF [at64 (x % 64), at64 (y % 64), at64 (z % 64)] 4 = (x % 64) * 262144 + (y % 64) * 4096 + (z % 64) * 64 := fun x y z => by
      show (((0 * 64 + (indexByte digF (at64 (x % 64))).toNat) * 64 + (indexByte digF (at64 (y % 64))).toNat) * 64 + (indexByte digF (at64 (z % 64))).toNat) * 64 + 0 = _
      rw [key, key, key]; omega
    rw [e3]
    simp only [List.length_cons, List.length_nil, Nat.reduceAdd, Nat.reduceMul, Nat.reduceDiv, List.take_succ_cons, List.take_zero]
    show [UInt8.ofNat _, UInt8.ofNat _] = [a, b]
    simp only [List.cons.injEq, and_true]
    refine ⟨UInt8.toNat_inj.1 ?_, UInt8.toNat_inj.1 ?_⟩ <;> rw [UInt8.toNat_ofNat'] <;> omega
  · have ha := a.toNat_lt
    have hb := b.toNat_lt
    have hd := d.toNat_lt
    have e1 : dgsF [a, b, d] = [at64 (bvF [a, b, d] 3 / 262144 % 64), at64 (bvF [a, b, d] 3 / 4096 % 64), at64 (bvF [a, b, d] 3 / 64 % 64), at64 (bvF [a, b, d] 3 / 1 % 64)] := rfl
    have e2 : bvF [a, b, d] 3 = a.toNat * 65536 + b.toNat * 256 + d.toNat := by show ((0 * 256 + a.toNat) * 256 + b.toNat) * 256 + d.toNat = _; omega
    rw [e1, e2]
    unfold oct3
    have e3 : ∀ x y z v : Nat, qvF [at64 (x % 64), at64 (y % 64), at64 (z % 64), at64 (v % 64)] 4 = (x % 64) * 262144 + (y % 64) * 4096 + (z % 64) * 64 + v % 64 := fun x y z v => by
      show (((0 * 64 + (indexByte digF (at64 (x % 64))).toNat) * 64 + (indexByte digF (at64 (y % 64))).toNat) * 64 + (indexByte digF (at64 (z % 64))).toNat) * 64 + (indexByte digF (at64 (v % 64))).toNat = _
      rw [key, key, key, key]; omega
    rw [e3]
    simp only [List.length_cons, List.length_nil, Nat.reduceAdd, Nat.reduceMul, Nat.reduceDiv, List.take_succ_cons, List.take_zero]
    show [UInt8.ofNat _, UInt8.ofNat _, UInt8.ofNat _] = [a, b, d]
    simp only [List.cons.injEq, and_true]
    refine ⟨UInt8.toNat_inj.1 ?_, UInt8.toNat_inj.1 ?_, UInt8.toNat_inj.1 ?_⟩ <;> rw [UInt8.toNat_ofNat'] <;> omega
  · simp at h3
theorem dg_ok (c : List UInt8) (i : Nat) (h : i ≤ c.length) : dgF c i ≠ 61 ∧ (dgF c i).toNat < 128 ∧ dgF c i ∈ digF := by
  unfold dgF
  rw [if_neg (by omega)]
  obtain ⟨a, b, d, _⟩ := at64_ok (bvF c 3 / 2 ^ (18 - 6 * i) % 64) (Nat.mod_lt _ (by omega))
  exact ⟨a, b, d⟩
theorem digs_len {c : List UInt8} (h1 : 1 ≤ c.length) (h3 : c.length ≤ 3) : (dgsF c).length = c.length + 1 := by
  unfold dgsF dig3
  rw [List.length_take]
  simp; omega
theorem digs_ok {c : List UInt8} (h3 : c.length ≤ 3) : ∀ d ∈ dgsF c, d ≠ 61 ∧ d.toNat < 128 ∧ d ∈ digF := by
  intro d hd
  obtain ⟨i, hi, rfl⟩ := List.mem_iff_getElem.1 hd
  have hi2 : i < c.length + 1 := by
    have : i < ((dig3 c).take (c.length + 1)).length := hi
    rw [List.length_take] at this; omega
  have : (dgsF c)[i] = dgF c i := by
    have hj : i < 4 := by omega
    simp only [dgsF, List.getElem_take, dig3]
    match i, hj with
    | 0, _ => rfl
    | 1, _ => rfl
    | 2, _ => rfl
    | 3, _ => rfl
  rw [this]
  exact dg_ok c i (by omega)
theorem dig3_eq {c : List UInt8} (h1 : 1 ≤ c.length) (h3 : c.length ≤ 3) : dig3 c = dgsF c ++ List.replicate (3 - c.length) 61 := by
  rcases c with _ | ⟨a, _ | ⟨b, _ | ⟨d, _ | ⟨e, r⟩⟩⟩⟩
  · simp at h1
  · rfl
  · rfl
  · rfl
  · simp at h3
/-- The digits of a text, without = at the end. -/
def left64 (L : List UInt8) : List UInt8 := (chkF 3 L).flatMap dgsF
/-- How many = there are at the end. -/
def eqs (L : List UInt8) : Nat := (3 - L.length % 3) % 3
theorem enc_left (L : List UInt8) : enc64 L = left64 L ++ List.replicate (eqs L) 61 ∧ chkF 4 (left64 L) = (chkF 3 L).map dgsF ∧ (enc64 L).length = (L.length + 2) / 3 * 4 := by
  refine chk_ind (k := 3) (by omega) (p := fun L => enc64 L = left64 L ++ List.replicate (eqs L) 61 ∧ chkF 4 (left64 L) = (chkF 3 L).map dgsF ∧ (enc64 L).length = (L.length + 2) / 3 * 4) (fun L h => ?_) (fun a L ha h => ?_) L
  · by_cases h0 : L = []
    · subst h0
      unfold enc64 left64
      rw [chkF_nil (by omega)]
      exact ⟨rfl, chkF_nil (by omega), rfl⟩
    · have h1 : 0 < L.length := List.length_pos_iff.2 h0
      have hd := dig3_eq (c := L) (by omega) (by omega)
      have hl := digs_len (c := L) (by omega) (by omega)
      unfold enc64 left64
      rw [chkF_small h0 (by omega)]
      refine ⟨?_, ?_, ?_⟩
      · show dig3 L ++ [] = (dgsF L ++ []) ++ _
        rw [List.append_nil, List.append_nil, hd]
        have : eqs L = 3 - L.length := by unfold eqs; omega
        rw [this]
      · show chkF 4 (dgsF L ++ []) = [dgsF L]
        rw [List.append_nil]
        exact chkF_small (fun e => by rw [e] at hl; simp at hl) (by omega)
      · show (dig3 L ++ []).length = _
        rw [List.append_nil]
        show 4 = _
        omega
  · obtain ⟨e1, e2, e3⟩ := h
    have hd := dig3_eq (c := a) (by omega) (by omega)
    have hl := digs_len (c := a) (by omega) (by omega)
    rw [ha] at hd
    have hd : dig3 a = dgsF a := by rw [hd]; exact List.append_nil _
    have c1 : chkF 3 (a ++ L) = a :: chkF 3 L := chkF_cons (by omega) ha
    have u1 : enc64 (a ++ L) = dig3 a ++ enc64 L := by unfold enc64; rw [c1, List.flatMap_cons]
    have u2 : left64 (a ++ L) = dgsF a ++ left64 L := by unfold left64; rw [c1, List.flatMap_cons]
    have u3 : eqs (a ++ L) = eqs L := by unfold eqs; rw [List.length_append, ha]; omega
    refine ⟨?_, ?_, ?_⟩
    · rw [u1, u2, u3, e1, hd, List.append_assoc]
    · rw [u2, chkF_cons (by omega) (by omega), e2, c1, List.map_cons]
    · rw [u1, List.length_append, e3, List.length_append, ha]
      show 4 + _ = _
      omega
theorem left_back (L : List UInt8) : (chkF 4 (left64 L)).flatMap oct3 = L := by
  rw [(enc_left L).2.1]
  have h : ∀ c ∈ chkF 3 L, oct3 (dgsF c) = c := fun c hc => oct_digs c (chkF_mem (by omega) hc).1 (chkF_mem (by omega) hc).2
  rw [List.flatMap_map]
  have h2 : (chkF 3 L).flatMap (fun c => oct3 (dgsF c)) = (chkF 3 L).flatMap id := flatMap_same _ _ _ (fun c hc => h c hc)
  rw [h2]
  clear h h2
  refine chk_ind (k := 3) (by omega) (p := fun L => (chkF 3 L).flatMap id = L) (fun L h => ?_) (fun a L ha h => ?_) L
  · by_cases h0 : L = []
    · subst h0; rw [chkF_nil (by omega)]; rfl
    · rw [chkF_small h0 (by omega)]; exact List.append_nil _
  · rw [chkF_cons (by omega) ha, List.flatMap_cons, h]; rfl
theorem left_ok (L : List UInt8) : (∀ d ∈ left64 L, d ≠ 61 ∧ d.toNat < 128 ∧ d ∈ digF) ∧ (left64 L).length % 4 ≠ 1 := by
  refine ⟨fun d hd => ?_, ?_⟩
  · obtain ⟨c, hc, hd⟩ := List.mem_flatMap.1 hd
    exact digs_ok (chkF_mem (by omega) hc).2 d hd
  · refine chk_ind (k := 3) (by omega) (p := fun L => (left64 L).length % 4 ≠ 1) (fun L h => ?_) (fun a L ha h => ?_) L
    · by_cases h0 : L = []
      · subst h0; unfold left64; rw [chkF_nil (by omega)]; decide
      · have h1 : 0 < L.length := List.length_pos_iff.2 h0
        have hl := digs_len (c := L) (by omega) (by omega)
        unfold left64
        rw [chkF_small h0 (by omega)]
        show (dgsF L ++ []).length % 4 ≠ 1
        rw [List.append_nil, hl]; omega
    · have hl := digs_len (c := a) (by omega) (by omega)
      have u2 : left64 (a ++ L) = dgsF a ++ left64 L := by unfold left64; rw [chkF_cons (by omega) ha, List.flatMap_cons]
      rw [u2, List.length_append, hl, ha]; omega
end Go.Proofs.YtnfeifafocemaaaDoor
