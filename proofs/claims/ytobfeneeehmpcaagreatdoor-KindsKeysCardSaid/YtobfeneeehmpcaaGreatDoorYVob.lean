/-
  The map of the last places at which a key stands, as a datum. Pure.
  A value that may be has no more under it than Check counts. Pure.
  The keys of an object that is made, each once, and the value that stands last with each. Pure.
  Contract of value's Object: each key once, rising, with the last value that stands with it.
-/
import Derived.Test.YtobfeneeehmpcaaGreatDoorYVcm
import Derived.Maps.OwnOps
import Derived.Maps.OwnSet
import Derived.Test.YtobfeneeehmpcaaGreatDoorYVcpy
import Derived.Test.YtobfeneeehmpcaaGreatDoorYVord
import Derived.Sort.KeysCollected
import Derived.Deep.RegionHeld3

set_option linter.unusedVariables false
set_option linter.unusedSimpArgs false
namespace Go.Proofs.YtobfeneeehmpcaaGreatDoor
open Go.RowKit

theorem alone_nil {x : VT} (h : alone x = 0) (hh : hold x.kind = false) : x.list = [] := by
  obtain ⟨k, n, u, e, t, l, ks⟩ := x
  obtain ⟨k1, k2, f⟩ := alone_fit h
  have hh' : hold k = false := hh
  have h5 : ¬ k = 5 := fun e => by subst e; exact absurd hh' (by decide)
  have h6 : ¬ k = 6 := fun e => by subst e; exact absurd hh' (by decide)
  rw [fitV_mk] at f
  have hz : l.length = 0 := by
    repeat' split at f
    all_goals simp only [Bool.and_eq_true, decide_eq_true_eq] at f
    all_goals omega
  exact List.eq_nil_of_length_eq_zero hz
mutual
theorem under_pre : ∀ (x : VT) (lv : Nat), (∀ y ∈ partsV x, alone y = 0) → (pre lv x).length = under x + 1
  | .mk k n u e t l ks, lv, h => by
    have h0 := h _ (mem_parts.2 (.inl rfl))
    rw [pre_eq, inner_mk]
    simp only [under]
    by_cases hh : hold k = true
    · rw [if_pos hh, List.length_cons, underL_pre l (lv + 1) fun z hz y hy => h y (mem_parts.2 (.inr ⟨z, by rw [inner_mk, if_pos hh]; exact hz, hy⟩))]
    · have hl : l = [] := alone_nil h0 (by show hold k = false; simpa using hh)
      subst hl
      rw [if_neg hh]
      simp [preL, underL]
theorem underL_pre : ∀ (l : List VT) (lv : Nat), (∀ x ∈ l, ∀ y ∈ partsV x, alone y = 0) → (preL lv l).length = underL l
  | [], _, _ => by simp [preL, underL]
  | a :: r, lv, h => by
    have h1 := under_pre a lv (h a (by simp))
    have h2 := underL_pre r lv fun x hx => h x (by simp [hx])
    simp only [preL, underL, List.length_append, h1, h2]
    omega
end
theorem under_ok {x : VT} (h : okV x) : under x ≤ 16383 := by
  obtain ⟨h1, h2, _⟩ := okV_parts h
  have h3 := under_pre x 0 h1
  unfold partsV at h2
  rw [List.length_map] at h2
  omega
end Go.Proofs.YtobfeneeehmpcaaGreatDoor

namespace Go.Proofs.YtobfeneeehmpcaaGreatDoor
open Go.RowKit Go.Maps

def VT0 : VT := .mk 0 false [] 0 ⟨#[]⟩ [] []
end Go.Proofs.YtobfeneeehmpcaaGreatDoor

namespace Go.Proofs.YtobfeneeehmpcaaGreatDoor
open Go.RowKit Go.Maps

/-- The zero value's tree. -/
theorem vin_zero (w : World) (S : Nat → Prop) : VIn w S VT0 [.int .i64 0, .bool false, .slice none 0 0, .int .i64 0, .string ⟨#[]⟩, .slice none 0 0, .slice none 0 0] :=
  .mk (cs := fun _ => []) (Rd.nil _ _ _) (by omega) (by decide) ⟨rfl, fun h0 => absurd h0 (by omega)⟩ (by omega) rfl (by omega) (Nat.le_refl _) (fun h0 => absurd h0 (by omega)) (fun i x hi => by simp at hi)
theorem RdT.getD {w : World} {S : Nat → Prop} {K : Option Addr} {n k : Nat} {ks : List ByteArray} (h : RdT w S K n ks) (hk : k < n) : ∃ b off, K = some ⟨b, off, none⟩ ∧ S b ∧ w.cell? ⟨b, off + k, none⟩ = some (.string (ks.getD k ⟨#[]⟩)) ∧ (ks.getD k ⟨#[]⟩).size ≤ 140737488355328 := by
  obtain ⟨b, off, s, e, hS, hs, hc⟩ := h.at_ hk
  have hd : ks.getD k ⟨#[]⟩ = s := by rw [List.getD_eq_getElem?_getD, hs]; rfl
  exact ⟨b, off, e, hS, by rw [hd]; exact hc, by rw [hd]; exact h.size hs⟩
theorem step_append_at {base : Nat} {e : TypeId} {i : TypeInfo} {z : Value} {size bytes n m c : Nat} {v : Value} {xs news : List Value} {ad : Addr} {w : World} {ops : Array Oper} {o : Oper} {a : Act} {K : Act → World → Prop} {Q : Exit → Act → World → Prop} {E : Prop} (hgd : o.guard = none) (s x : Operand) (t : TypeId)
    (ho : o.op = .call { callee := .builtin .append, args := #[s, x], argTypes := #[t, t] })
    (ht : Tryz.prog.underlying t = some (.slice e)) (hi : Tryz.prog.info? e = some i) (hz : i.zero = some z)
    (hsize : i.size = size) (hby : i.bytes = bytes) (hzs : z.cells.size = size) (hsz : 0 < size)
    (hs : a.eval s = v) (hown : w.ownsRow base e size v n xs)
    (hx : a.eval x = .slice (some ad) m c) (hl : news.length = m * size) (hnews : ∀ j u, news[j]? = some u → w.cell? (ad.add j) = some u) (h1 : ∀ u ∈ news, u.oneCell' = true)
    (h63 : n + m ≤ maxLen) (hbytes : (n + m) * bytes ≤ 140737488355328) (hbase : base ≤ w.heap.size)
    (h : ∀ v' w', w'.ownsRow base e size v' (n + m) (xs ++ news) → w.grownBy w' v.ownBlock → (v' = .slice none 0 0 ↔ v = .slice none 0 0 ∧ m = 0) → (v'.ownBlock = v.ownBlock ∨ v'.ownBlock = some w.heap.size) → K (a.put o.dst v') w') :
    if Region.wanted o (yielded ops a.tmps) = true then Oper.wp Tryz.prog o a w K Q else E := by
  have hw : Region.wanted o (yielded ops a.tmps) = true := by simp [Region.wanted, hgd]
  rw [if_pos hw]
  obtain ⟨v', w', hr, h2, h3, h4, h5⟩ := run_append_own_at (P := Tryz.prog) w base t o.type e i z size bytes ht hi hz hsize hby hzs hsz v n xs hown ad m c news hl hnews h1 h63 hbytes hbase
  unfold Oper.wp execOp
  simp only [ho, resolve, invoke, builtin, Sem.run_bind, Sem.run_pure, Result.andThen_ok, List.map_toArray, List.map_cons, List.map_nil, hs, hx, hr]
  exact h v' w' h2 h3 h4 h5
theorem new7 (w : World) (a0 a1 a2 a3 a4 a5 a6 : Value) (t : TypeId) : ∀ j u, [a0, a1, a2, a3, a4, a5, a6][j]? = some u → (w.alloc (.cells #[a0, a1, a2, a3, a4, a5, a6] t)).cell? ((⟨w.heap.size, 0, none⟩ : Addr).add j) = some u := by
  obtain ⟨x0, x1, x2, x3, x4, x5, x6⟩ := box7_of (World.alloc_heap_new w (.cells #[a0, a1, a2, a3, a4, a5, a6] t))
  intro j u h
  rw [Addr.add_lit, Nat.zero_add]
  match j, h with
  | 0, h => injection h with h; subst h; exact x0
  | 1, h => injection h with h; subst h; exact x1
  | 2, h => injection h with h; subst h; exact x2
  | 3, h => injection h with h; subst h; exact x3
  | 4, h => injection h with h; subst h; exact x4
  | 5, h => injection h with h; subst h; exact x5
  | 6, h => injection h with h; subst h; exact x6
/-- The cells of the first j values that are put together. -/
def flatC (cs : Nat → List Value) (ix : Nat → Nat) (j : Nat) : List Value := ((List.range j).map fun q => cs (ix q)).flatten
theorem flatC_succ (cs : Nat → List Value) (ix : Nat → Nat) (j : Nat) : flatC cs ix (j + 1) = flatC cs ix j ++ cs (ix j) := by
  unfold flatC
  rw [List.range_succ]; simp
theorem flatC_length {cs : Nat → List Value} {ix : Nat → Nat} : ∀ {j : Nat}, (∀ q, q < j → (cs (ix q)).length = 7) → (flatC cs ix j).length = j * 7
  | 0, _ => rfl
  | j + 1, h => by
    rw [flatC_succ, List.length_append, flatC_length fun q hq => h q (by omega), h j (by omega)]; omega
theorem flatC_get {cs : Nat → List Value} {ix : Nat → Nat} : ∀ {j : Nat}, (∀ q, q < j → (cs (ix q)).length = 7) → ∀ i t, i < j → t < 7 → (flatC cs ix j)[i * 7 + t]? = (cs (ix i))[t]?
  | 0, _, i, t, hi, _ => absurd hi (by omega)
  | j + 1, h, i, t, hi, ht => by
    have hl := flatC_length (cs := cs) (ix := ix) (j := j) fun q hq => h q (by omega)
    rw [flatC_succ]
    by_cases hj : i = j
    · subst hj
      rw [List.getElem?_append_right (by omega), hl, show i * 7 + t - i * 7 = t by omega]
    · rw [List.getElem?_append_left (by omega)]
      exact flatC_get (fun q hq => h q (by omega)) i t (by omega) ht

end Go.Proofs.YtobfeneeehmpcaaGreatDoor
