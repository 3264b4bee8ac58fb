/-
  The map of the last places at which a key stands, as a datum. Pure.
  A value that may be has no more under it than Check counts. Pure.
  The keys of an object that is made, each once, and the value that stands last with each. Pure.
  Contract of value's Object: each key once, rising, with the last value that stands with it.
-/
import Derived.Test.YtpmdcahomkdfmaaGreatDoorIter
import Derived.Test.YtpmdcahomkdfmaaGreatDoorBVcm
import Derived.Maps.OwnOps
import Derived.Maps.OwnSet
import Derived.Test.YtpmdcahomkdfmaaGreatDoorBVcpy
import Derived.Test.YtpmdcahomkdfmaaGreatDoorBVord
import Derived.Sort.KeysCollected
import Derived.Deep.RegionHeld3
set_option linter.unusedVariables false
set_option linter.unusedSimpArgs false
namespace Go.Proofs.YtpmdcahomkdfmaaGreatDoor
open Go.RowKit Go.Maps

def kL (s : ByteArray) : Lit := .string s.data.toList
theorem kL_inj {s t : ByteArray} (h : kL s = kL t) : s = t := by
  unfold kL at h
  injection h with h
  exact ByteArray.ext (Array.ext' h)
/-- The last of the first k places at which s stands. -/
def lastAt (ks : List ByteArray) (s : ByteArray) : Nat → Option Nat
  | 0 => none
  | k + 1 => if ks.getD k ⟨#[]⟩ = s then some k else lastAt ks s k
def lastD {H : Type} (ks : List ByteArray) : Nat → DataW H
  | 0 => .map []
  | k + 1 => (lastD ks k).put (kL (ks.getD k ⟨#[]⟩)) (.lit (.int .i64 (k : Int)))
theorem kL_key (s : ByteArray) : WideAt.IsKeyLit (kL s) := by unfold kL; trivial
theorem lastD_tidy {H : Type} (ks : List ByteArray) : ∀ k, Tidy (lastD (H := H) ks k)
  | 0 => tidy_empty
  | k + 1 => (lastD_tidy ks k).put (kL_key _) _
theorem lastD_at {H : Type} (ks : List ByteArray) (s : ByteArray) (z : DataW H) : ∀ k, (lastD ks k).atKey (kL s) z = match lastAt ks s k with | some i => .lit (.int .i64 (i : Int)) | none => z
  | 0 => atKey_of_not_has rfl z
  | k + 1 => by
    unfold lastD lastAt
    by_cases h : ks.getD k ⟨#[]⟩ = s
    · rw [if_pos h, h]
      exact atKey_put_same (lastD_tidy ks k).isMap (kL_key _) _ _
    · rw [if_neg h, atKey_put_other (fun e => h (kL_inj e).symm)]
      exact lastD_at ks s z k
theorem lastD_has {H : Type} (ks : List ByteArray) (s : ByteArray) : ∀ k, Maps.has (lastD (H := H) ks k) (kL s) = (lastAt ks s k).isSome
  | 0 => rfl
  | k + 1 => by
    unfold lastD lastAt
    by_cases h : ks.getD k ⟨#[]⟩ = s
    · rw [if_pos h, h]
      exact has_put_same (lastD_tidy ks k).isMap (kL_key _) _
    · rw [if_neg h, has_put_other (fun e => h (kL_inj e).symm)]
      exact lastD_has ks s k
theorem lastD_size {H : Type} (ks : List ByteArray) : ∀ k, Maps.size (lastD (H := H) ks k) ≤ k
  | 0 => Nat.le_refl _
  | k + 1 => by
    unfold lastD
    rw [size_put (lastD_tidy ks k)]
    have := lastD_size (H := H) ks k
    split <;> omega
end Go.Proofs.YtpmdcahomkdfmaaGreatDoor

namespace Go.Proofs.YtpmdcahomkdfmaaGreatDoor
open Go.RowKit

theorem alone_nil {x : VT} (h : alone x = 0) (hh : hold x.kind = false) : x.list = [] := by
  obtain ⟨k, n, u, e, t, l, ks⟩ := x
  obtain ⟨k1, k2, f⟩ := alone_fit h
  have hh' : hold k = false := hh
  have h5 : ¬ k = 5 := fun e => by subst e; exact absurd hh' (by decide)
  have h6 : ¬ k = 6 := fun e => by subst e; exact absurd hh' (by decide)
  rw [fitV_mk] at f
  have hz : l.length = 0 := by
    repeat' split at f
    all_goals simp only [Bool.and_eq_true, decide_eq_true_eq] at f
    all_goals omega
  exact List.eq_nil_of_length_eq_zero hz
mutual
theorem under_pre : ∀ (x : VT) (lv : Nat), (∀ y ∈ partsV x, alone y = 0) → (pre lv x).length = under x + 1
  | .mk k n u e t l ks, lv, h => by
    have h0 := h _ (mem_parts.2 (.inl rfl))
    rw [pre_eq, inner_mk]
    simp only [under]
    by_cases hh : hold k = true
    · rw [if_pos hh, List.length_cons, underL_pre l (lv + 1) fun z hz y hy => h y (mem_parts.2 (.inr ⟨z, by rw [inner_mk, if_pos hh]; exact hz, hy⟩))]
    · have hl : l = [] := alone_nil h0 (by show hold k = false; simpa using hh)
      subst hl
      rw [if_neg hh]
      simp [preL, underL]
theorem underL_pre : ∀ (l : List VT) (lv : Nat), (∀ x ∈ l, ∀ y ∈ partsV x, alone y = 0) → (preL lv l).length = underL l
  | [], _, _ => by simp [preL, underL]
  | a :: r, lv, h => by
    have h1 := under_pre a lv (h a (by simp))
    have h2 := underL_pre r lv fun x hx => h x (by simp [hx])
    simp only [preL, underL, List.length_append, h1, h2]
    omega
end
theorem under_ok {x : VT} (h : okV x) : under x ≤ 16383 := by
  obtain ⟨h1, h2, _⟩ := okV_parts h
  have h3 := under_pre x 0 h1
  unfold partsV at h2
  rw [List.length_map] at h2
  omega
end Go.Proofs.YtpmdcahomkdfmaaGreatDoor

namespace Go.Proofs.YtpmdcahomkdfmaaGreatDoor
open Go.RowKit Go.Maps

def VT0 : VT := .mk 0 false [] 0 ⟨#[]⟩ [] []
theorem mem_insert {H : Type} {x p : Lit × DataW H} : ∀ {l : List (Lit × DataW H)}, p ∈ DataW.insert x l → p = x ∨ p ∈ l
  | [], h => by simpa [DataW.insert] using h
  | y :: r, h => by
    unfold DataW.insert at h
    split at h
    · simpa using h
    · rcases List.mem_cons.1 h with h | h
      · exact .inr (by simp [h])
      · rcases mem_insert h with h | h
        · exact .inl h
        · exact .inr (by simp [h])
theorem lastD_es {H : Type} (ks : List ByteArray) : ∀ k, ∃ es, lastD (H := H) ks k = .map es ∧ ∀ p ∈ es, ∃ x, p.1 = .string x
  | 0 => ⟨[], rfl, fun p hp => by simp at hp⟩
  | k + 1 => by
    obtain ⟨es, he, h⟩ := lastD_es (H := H) ks k
    unfold lastD
    rw [he]
    refine ⟨_, rfl, fun p hp => ?_⟩
    rcases mem_insert hp with rfl | hp
    · exact ⟨_, rfl⟩
    · exact h p (List.mem_filter.1 hp).1
theorem lastD_nodup {H : Type} (ks : List ByteArray) (k : Nat) : (strKeys (lastD (H := H) ks k)).Nodup := by
  obtain ⟨es, he, h⟩ := lastD_es (H := H) ks k
  obtain ⟨es', he', hp⟩ := lastD_tidy (H := H) ks k
  rw [he] at he'
  injection he' with he'
  subst he'
  rw [he]
  show (es.map fun p => strOf p.1).Nodup
  refine List.pairwise_map.2 (hp.imp_of_mem fun {p q} hp' hq' hne e => hne ?_)
  obtain ⟨a, ha⟩ := h p hp'
  obtain ⟨b, hb⟩ := h q hq'
  rw [ha, hb] at e ⊢
  exact congrArg _ e
theorem lastD_mem {H : Type} (ks : List ByteArray) (k : Nat) (s : ByteArray) : s.data.toList ∈ strKeys (lastD (H := H) ks k) ↔ (lastAt ks s k).isSome = true := by
  rw [← lastD_has (H := H)]
  obtain ⟨es, he, h⟩ := lastD_es (H := H) ks k
  rw [he, has_eq, List.any_eq_true]
  show s.data.toList ∈ es.map (fun p => strOf p.1) ↔ _
  rw [List.mem_map]
  constructor
  · rintro ⟨p, hp, e⟩
    obtain ⟨a, ha⟩ := h p hp
    rw [ha] at e
    refine ⟨p, hp, ?_⟩
    rw [ha]
    have e' : a = s.data.toList := e
    rw [e']
    exact WideAt.sameKey_self (kL_key s)
  · rintro ⟨p, hp, e⟩
    have e' := WideAt.sameKey_eq e
    exact ⟨p, hp, by rw [e']; rfl⟩

/-- The keys, each once, as the sort leaves them. -/
def keysL (ks : List ByteArray) : List (List UInt8) := (strKeys (lastD (H := Unit) ks ks.length)).mergeSort leB
def keysB (ks : List ByteArray) : List ByteArray := (keysL ks).map fun x => ⟨x.toArray⟩
theorem keysB_mem {ks : List ByteArray} {s : ByteArray} : s ∈ keysB ks ↔ (lastAt ks s ks.length).isSome = true := by
  rw [← lastD_mem (H := Unit)]
  unfold keysB keysL
  rw [List.mem_map]
  constructor
  · rintro ⟨x, hx, rfl⟩
    simpa using List.mem_mergeSort.1 hx
  · intro h
    exact ⟨s.data.toList, List.mem_mergeSort.2 h, by simp⟩
theorem keysB_length (ks : List ByteArray) : (keysB ks).length ≤ ks.length := by
  unfold keysB keysL
  rw [List.length_map, List.length_mergeSort]
  have := lastD_size (H := Unit) ks ks.length
  obtain ⟨es, he, _⟩ := lastD_es (H := Unit) ks ks.length
  rw [he] at this ⊢
  show (es.map fun p => strOf p.1).length ≤ _
  rw [List.length_map]
  exact this
theorem lastAt_some {ks : List ByteArray} {s : ByteArray} : ∀ {k i : Nat}, lastAt ks s k = some i → i < k ∧ ks.getD i ⟨#[]⟩ = s ∧ ∀ j, i < j → j < k → ks.getD j ⟨#[]⟩ ≠ s
  | 0, i, h => by simp [lastAt] at h
  | k + 1, i, h => by
    unfold lastAt at h
    split at h
    · rename_i e
      injection h with h
      subst h
      exact ⟨by omega, e, fun j h1 h2 => absurd h1 (by omega)⟩
    · rename_i e
      obtain ⟨h1, h2, h3⟩ := lastAt_some h
      refine ⟨by omega, h2, fun j h4 h5 => ?_⟩
      by_cases hj : j = k
      · subst hj; exact e
      · exact h3 j h4 (by omega)
theorem lastAt_none {ks : List ByteArray} {s : ByteArray} : ∀ {k : Nat}, lastAt ks s k = none → ∀ j, j < k → ks.getD j ⟨#[]⟩ ≠ s
  | 0, _, j, hj => absurd hj (by omega)
  | k + 1, h, j, hj => by
    unfold lastAt at h
    split at h
    · simp at h
    · rename_i e
      by_cases hk : j = k
      · subst hk; exact e
      · exact lastAt_none h j (by omega)
/-- What stands last with a key. -/
def lastV (ks : List ByteArray) (l : List VT) (s : ByteArray) : VT := match lastAt ks s ks.length with
  | some i => l.getD i VT0
  | none => VT0
/-- The object that is made. -/
def objV (ks : List ByteArray) (l : List VT) : VT := .mk 6 false [] 0 ⟨#[]⟩ ((keysB ks).map (lastV ks l)) (keysB ks)
def errO (ks : List ByteArray) (l : List VT) : Nat := if ks.length = l.length then errV (objV ks l) else 3
def resO (ks : List ByteArray) (l : List VT) : VT := if errO ks l = 0 then objV ks l else VT0
end Go.Proofs.YtpmdcahomkdfmaaGreatDoor

namespace Go.Proofs.YtpmdcahomkdfmaaGreatDoor
open Go.RowKit Go.Maps

/-- The zero value's tree. -/
theorem vin_zero (w : World) (S : Nat → Prop) : VIn w S VT0 [.int .i64 0, .bool false, .slice none 0 0, .int .i64 0, .string ⟨#[]⟩, .slice none 0 0, .slice none 0 0] :=
  .mk (cs := fun _ => []) (Rd.nil _ _ _) (by omega) (by decide) ⟨rfl, fun h0 => absurd h0 (by omega)⟩ (by omega) rfl (by omega) (Nat.le_refl _) (fun h0 => absurd h0 (by omega)) (fun i x hi => by simp at hi)
theorem keyLaw : Keyed Tryz.prog 9 := string_keyed Tryz.underlying9
theorem zeroI (w : World) : (zeroValue 3).run Tryz.prog w = .ok (.int .i64 0) w := by kernel_rfl
theorem RdT.getD {w : World} {S : Nat → Prop} {K : Option Addr} {n k : Nat} {ks : List ByteArray} (h : RdT w S K n ks) (hk : k < n) : ∃ b off, K = some ⟨b, off, none⟩ ∧ S b ∧ w.cell? ⟨b, off + k, none⟩ = some (.string (ks.getD k ⟨#[]⟩)) ∧ (ks.getD k ⟨#[]⟩).size ≤ 140737488355328 := by
  obtain ⟨b, off, s, e, hS, hs, hc⟩ := h.at_ hk
  have hd : ks.getD k ⟨#[]⟩ = s := by rw [List.getD_eq_getElem?_getD, hs]; rfl
  exact ⟨b, off, e, hS, by rw [hd]; exact hc, by rw [hd]; exact h.size hs⟩
theorem map_keep {w w' : World} {b n : Nat} {D : DataW Unit} (h : w.ownsMap Tryz.prog 9 (plainElem (H := Unit) Tryz.prog 3) b n D) (hk : w'.heap[b]? = w.heap[b]?) : w'.ownsMap Tryz.prog 9 (plainElem (H := Unit) Tryz.prog 3) b n D := by
  obtain ⟨es, clock, hb, F, hs, hD⟩ := h
  exact ⟨es, clock, hk.trans hb, F, hs, hD⟩
set_option maxRecDepth 100000 in
/-- What is looked up is the last place. -/
theorem look_last {w : World} {b n i k : Nat} {ks : List ByteArray} {s : ByteArray} (h : w.ownsMap Tryz.prog 9 (plainElem (H := Unit) Tryz.prog 3) b n (lastD ks k)) (hs : s.size ≤ maxLen) (hi : lastAt ks s k = some i) :
    (Instr.lookup 65 (.map (some b)) (.string s) false).run Tryz.prog w = .ok (.int .i64 (i : Int)) w := by
  obtain ⟨c, hrun, hat, _⟩ := h.lookup_int (t := 65) keyLaw Tryz.underlying65 Tryz.underlying3 (zeroI w) (Go.WideMaps.keyOf_string_mk Tryz.underlying9 hs : keyOf Tryz.prog 9 (.string s) = some (kL s))
  have hat2 : (lastD (H := Unit) ks k).atKey (kL s) (.lit (.int .i64 0)) = .lit (.int .i64 c) := hat
  rw [lastD_at, hi] at hat2
  injection hat2 with hat2
  injection hat2 with _ hat2
  rw [hrun, hat2]
theorem keys_row {w : World} {base n : Nat} {v : Value} {ks : List ByteArray} {ss : List (List UInt8)} (hp : ss.Perm (strKeys (lastD (H := Unit) ks ks.length))) (h : w.ownsRow base 9 1 v ss.length ((ss.mergeSort (fun x y => decide (x ≤ y))).map encStr)) :
    w.ownsRow base 9 1 v (keysB ks).length (strs (keysB ks)) := by
  have h1 : ss.mergeSort (fun x y => decide (x ≤ y)) = keysL ks := mergeSort_of_perm hp
  have h2 : ss.length = (keysB ks).length := by
    unfold keysB
    rw [List.length_map, ← h1, List.length_mergeSort]
  have h3 : (keysL ks).map encStr = strs (keysB ks) := by
    unfold strs keysB
    rw [List.map_map]; rfl
  rw [h1, h2, h3] at h
  exact h
theorem step_append_at {base : Nat} {e : TypeId} {i : TypeInfo} {z : Value} {size bytes n m c : Nat} {v : Value} {xs news : List Value} {ad : Addr} {w : World} {ops : Array Oper} {o : Oper} {a : Act} {K : Act → World → Prop} {Q : Exit → Act → World → Prop} {E : Prop} (hgd : o.guard = none) (s x : Operand) (t : TypeId)
    (ho : o.op = .call { callee := .builtin .append, args := #[s, x], argTypes := #[t, t] })
    (ht : Tryz.prog.underlying t = some (.slice e)) (hi : Tryz.prog.info? e = some i) (hz : i.zero = some z)
    (hsize : i.size = size) (hby : i.bytes = bytes) (hzs : z.cells.size = size) (hsz : 0 < size)
    (hs : a.eval s = v) (hown : w.ownsRow base e size v n xs)
    (hx : a.eval x = .slice (some ad) m c) (hl : news.length = m * size) (hnews : ∀ j u, news[j]? = some u → w.cell? (ad.add j) = some u) (h1 : ∀ u ∈ news, u.oneCell' = true)
    (h63 : n + m ≤ maxLen) (hbytes : (n + m) * bytes ≤ 140737488355328) (hbase : base ≤ w.heap.size)
    (h : ∀ v' w', w'.ownsRow base e size v' (n + m) (xs ++ news) → w.grownBy w' v.ownBlock → (v' = .slice none 0 0 ↔ v = .slice none 0 0 ∧ m = 0) → (v'.ownBlock = v.ownBlock ∨ v'.ownBlock = some w.heap.size) → K (a.put o.dst v') w') :
    if Region.wanted o (yielded ops a.tmps) = true then Oper.wp Tryz.prog o a w K Q else E := by
  have hw : Region.wanted o (yielded ops a.tmps) = true := by simp [Region.wanted, hgd]
  rw [if_pos hw]
  obtain ⟨v', w', hr, h2, h3, h4, h5⟩ := run_append_own_at (P := Tryz.prog) w base t o.type e i z size bytes ht hi hz hsize hby hzs hsz v n xs hown ad m c news hl hnews h1 h63 hbytes hbase
  unfold Oper.wp execOp
  simp only [ho, resolve, invoke, builtin, Sem.run_bind, Sem.run_pure, Result.andThen_ok, List.map_toArray, List.map_cons, List.map_nil, hs, hx, hr]
  exact h v' w' h2 h3 h4 h5
theorem new7 (w : World) (a0 a1 a2 a3 a4 a5 a6 : Value) (t : TypeId) : ∀ j u, [a0, a1, a2, a3, a4, a5, a6][j]? = some u → (w.alloc (.cells #[a0, a1, a2, a3, a4, a5, a6] t)).cell? ((⟨w.heap.size, 0, none⟩ : Addr).add j) = some u := by
  obtain ⟨x0, x1, x2, x3, x4, x5, x6⟩ := box7_of (World.alloc_heap_new w (.cells #[a0, a1, a2, a3, a4, a5, a6] t))
  intro j u h
  rw [Addr.add_lit, Nat.zero_add]
  match j, h with
  | 0, h => injection h with h; subst h; exact x0
  | 1, h => injection h with h; subst h; exact x1
  | 2, h => injection h with h; subst h; exact x2
  | 3, h => injection h with h; subst h; exact x3
  | 4, h => injection h with h; subst h; exact x4
  | 5, h => injection h with h; subst h; exact x5
  | 6, h => injection h with h; subst h; exact x6
/-- The cells of the first j values that are put together. -/
def flatC (cs : Nat → List Value) (ix : Nat → Nat) (j : Nat) : List Value := ((List.range j).map fun q => cs (ix q)).flatten
theorem flatC_succ (cs : Nat → List Value) (ix : Nat → Nat) (j : Nat) : flatC cs ix (j + 1) = flatC cs ix j ++ cs (ix j) := by
  unfold flatC
  rw [List.range_succ]; simp
theorem flatC_length {cs : Nat → List Value} {ix : Nat → Nat} : ∀ {j : Nat}, (∀ q, q < j → (cs (ix q)).length = 7) → (flatC cs ix j).length = j * 7
  | 0, _ => rfl
  | j + 1, h => by
    rw [flatC_succ, List.length_append, flatC_length fun q hq => h q (by omega), h j (by omega)]; omega
theorem flatC_get {cs : Nat → List Value} {ix : Nat → Nat} : ∀ {j : Nat}, (∀ q, q < j → (cs (ix q)).length = 7) → ∀ i t, i < j → t < 7 → (flatC cs ix j)[i * 7 + t]? = (cs (ix i))[t]?
  | 0, _, i, t, hi, _ => absurd hi (by omega)
  | j + 1, h, i, t, hi, ht => by
    have hl := flatC_length (cs := cs) (ix := ix) (j := j) fun q hq => h q (by omega)
    rw [flatC_succ]
    by_cases hj : i = j
    · subst hj
      rw [List.getElem?_append_right (by omega), hl, show i * 7 + t - i * 7 = t by omega]
    · rw [List.getElem?_append_left (by omega)]
      exact flatC_get (fun q hq => h q (by omega)) i t (by omega) ht

set_option maxRecDepth 100000 in
set_option maxHeartbeats 4000000 in
theorem object_c {S : Nat → Prop} (w : World) {KA LA : Option Addr} {n m kc lc : Nat} {ks : List ByteArray} {l : List VT} (hT : Tabs w) (hk : RdT w S KA n ks) (hl : RdL w S LA m l) (hn : n ≤ 8796093022208) (hm : m ≤ 1256584717458) (hS : ∀ b, S b → b < w.heap.size) :
    Calls Tryz.prog 19 #[.slice KA n kc, .slice LA m lc] w fun e' w' => ∃ cs', e' = .returned (.tuple #[.agg cs'.toArray, .int .i64 ((errO ks l : Nat) : Int)]) ∧ VIn w' (Own' w.heap.size w') (resO ks l) cs' ∧ Below w.heap.size w w' := by
  have hmm := @run_makeMap Tryz.prog
  have hb0 : Below w.heap.size w (w.alloc (.cells #[.int .i64 0, .bool false, .slice none 0 0, .int .i64 0, .string ⟨#[]⟩, .slice none 0 0, .slice none 0 0] 28)) := (Below.refl _ w).alloc (Nat.le_refl _) _
  have hz0 : (w.alloc (.cells #[.int .i64 0, .bool false, .slice none 0 0, .int .i64 0, .string ⟨#[]⟩, .slice none 0 0, .slice none 0 0] 28)).heap.size = w.heap.size + 1 := by simp
  have hr0 := World.alloc_heap_new w (.cells #[.int .i64 0, .bool false, .slice none 0 0, .int .i64 0, .string ⟨#[]⟩, .slice none 0 0, .slice none 0 0] 28)
  have hkl := hk.1
  have hll := hl.1
  have HK := Lib.hid hk
  have HL := Lib.hid hl
  have HS := Lib.hid hS
  have HTT := Lib.hid hT
  clear hk hl hS hT
  obtain ⟨E, hE⟩ : ∃ E, errO ks l = E := ⟨_, rfl⟩
  obtain ⟨R, hR⟩ : ∃ R, resO ks l = R := ⟨_, rfl⟩
  rw [hE, hR]
  have HE := Lib.hid hE
  have HR := Lib.hid hR
  clear hE hR
  by_cases hnm : n = m
  · subst hnm
    have HER : Hid (errV (objV ks l) = E) := by show _ = _; rw [← HE.out]; unfold errO; rw [if_pos (by omega)]
    go_enter Tryz.func19, Tryz.ntmps19
    go_upto_region 3 with fail
    generalize (w.alloc (.cells #[.int .i64 0, .bool false, .slice none 0 0, .int .i64 0, .string ⟨#[]⟩, .slice none 0 0, .slice none 0 0] 28)) = w0 at *
    have hz1 := Nat.le_of_eq hz0
    have hz2 := Nat.le_of_eq hz0.symm
    clear hz0
    have HR0 := Lib.hid hr0
    clear hr0
    go_upto_region 5 with fail
    go_loopw [22] (fun i wr => ∃ k : Nat, k ≤ n ∧ i = .int .i64 (k : Int) ∧ wr.ownsMap Tryz.prog 9 (plainElem (H := Unit) Tryz.prog 3) w0.heap.size k (lastD ks k) ∧ Below w0.heap.size w0 wr) (fun i _ => n - (RowKit.intOf i).toNat)
    case atStart => exact ⟨0, Nat.zero_le _, rfl, World.ownsMap_made _ _ _ _, (Below.refl _ _).alloc (Nat.le_refl _) _⟩
    case round =>
      obtain ⟨k, hkn, rfl, hown, hnx⟩ := hrel
      by_cases hlt : k < n
      · have hlt2 : (k : Int) < (n : Int) := by omega
        have hk0 : (0 : Int) ≤ (k : Int) := by omega
        have hkt : ((k : Int)).toNat = k := by omega
        have hkw : IntKind.i64.wrap ((k : Int) + 1) = (k : Int) + 1 := IntWalk.i64_in _ (by omega)
        obtain ⟨b, off, rfl, hSb, hc0, hsz⟩ := HK.out.getD hlt
        have hcell : wr.cell? ⟨b, off + k, none⟩ = some (.string (ks.getD k ⟨#[]⟩)) := ((hnx.cell (p := ⟨b, off + k, none⟩) (Nat.lt_of_lt_of_le (HS.out _ hSb) hb0.size)).trans (hb0.cell (p := ⟨b, off + k, none⟩) (HS.out _ hSb))).trans hc0
        obtain ⟨s, hs⟩ : ∃ s, ks.getD k ⟨#[]⟩ = s := ⟨_, rfl⟩
        have hstep : lastD (H := Unit) ks (k + 1) = (lastD ks k).put (kL s) (.lit (.int .i64 (k : Int))) := by rw [← hs]; rfl
        rw [hs] at hcell hsz
        have hkey : keyOf Tryz.prog 9 (.string s) = some (kL s) := Go.WideMaps.keyOf_string_mk Tryz.underlying9 (by unfold maxLen; omega)
        have HST := Lib.hid hstep
        have HOW := Lib.hid hown
        have HNX := Lib.hid hnx
        clear hs hc0 hstep hown hnx
        go_upto_region 8 with (at_mapUpdate; refine wpList_mapUpdate_own _ rfl _ _ _ 65 rfl 9 3 keyLaw Tryz.underlying65 _ w0.heap.size k _ rfl HOW.out (by unfold maxLen; omega) _ _ _ rfl rfl hkey _ [] (plainElem_int Tryz.underlying3 (WalkArith.wf_i64 (by omega))) ?_; intro w1 hown1 hgrow1)
        have R1 := Lib.hid (HST.out.symm ▸ hown1)
        have R2 := Lib.hid (HNX.out.grown hgrow1 HNX.out.size (fun j hj => by cases hj; exact Nat.le_refl _))
        clear hown1 hgrow1
        go_wp2_with fail
        go_roundw
        case rel => exact ⟨k + 1, by omega, by go_num, R1.out, R2.out⟩
        case measure => first | (simp [RowKit.intOf]; omega) | (simp [RowKit.intOf]; omega) | (show n - _ < n - _; simp only [RowKit.intOf]; omega)
      · have hge : ¬ (k : Int) < (n : Int) := by omega
        have hkn2 : k = n := by omega
        subst hkn2
        have HOW := Lib.hid hown
        have HNX := Lib.hid hnx
        clear hown hnx
        go_upto_region 9 with fail
        have hC1 := callsIn_wide.1 (Tryz.maps_Keys_41 (some w0.heap.size) wr)
        have hC2 := callsIn_wide.1 (Tryz.slices_Sorted_keys_40_41 w0.heap.size k (lastD ks k) _ wr HOW.out (by have := lastD_size (H := Unit) ks k; unfold maxLen; omega) (by have := lastD_size (H := Unit) ks k; omega))
        go_wp2_with fail
        refine hC1.mono ?_
        rintro e' w1 ⟨rfl, rfl⟩
        go_wp2_with fail
        refine hC2.mono ?_
        rintro e' w2 ⟨v, ss, rfl, hperm, hrow, hnil, hb2⟩
        have hrow2 := keys_row (n := k) (by rw [hkl]; exact hperm) hrow
        have hkb := keysB_length ks
        obtain ⟨kn, hkn3⟩ : ∃ kn, (keysB ks).length = kn := ⟨_, rfl⟩
        rw [hkn3] at hrow2 hkb
        obtain ⟨K1, kc1, hv, hkc⟩ : ∃ K1 kc1, v = .slice K1 kn kc1 ∧ kn ≤ kc1 := by
          rcases hrow2.2 with ⟨e1, e2⟩ | ⟨g, cap, cur, e1, _, _, h4, _⟩
          · exact ⟨none, 0, by rw [e1, e2], by omega⟩
          · exact ⟨_, _, e1, h4⟩
        subst hv
        have HKN := Lib.hid hkn3
        clear hkn3
        have hlt0 := HOW.out.lt
        have hb21 : Below wr.heap.size wr w2 := ((Below.refl _ wr).alloc (Nat.le_refl _) _).trans (hb2.mono (by simp))
        have hmap2 := map_keep HOW.out (hb21.block _ hlt0)
        have hb02 : Below w0.heap.size w0 w2 := HNX.out.trans (hb21.mono HNX.out.size)
        have hsz2 := hb2.size
        have hszr : wr.heap.size + 1 ≤ w2.heap.size := by simpa using hsz2
        have hrow3 := own_mono (base' := w0.heap.size + 1) hrow2 (by simp; omega)
        have HM2 := Lib.hid hmap2
        have HB02 := Lib.hid hb02
        have HRW2 := Lib.hid hrow3
        clear hrow hrow2 hrow3 hperm hnil hb2 hb21 hmap2 hb02 hC1 hC2 HOW HNX hsz2
        obtain ⟨_, _, cs, hcr, hcv⟩ := HL.out
        have hcs7 : ∀ i, i < k → (cs i).length = 7 := fun i hi => (hcv i _ (List.getElem?_eq_getElem (by omega))).one.1
        have hixa : ∀ q, q < kn → ∃ i, lastAt ks ((keysB ks).getD q ⟨#[]⟩) ks.length = some i ∧ i < k := fun q hq => by
          have h1 : (keysB ks).getD q ⟨#[]⟩ ∈ keysB ks := by
            have h2 := HKN.out
            rw [List.getD_eq_getElem?_getD, List.getElem?_eq_getElem (by omega)]
            exact List.getElem_mem _
          obtain ⟨i, hi⟩ := Option.isSome_iff_exists.1 (keysB_mem.1 h1)
          exact ⟨i, hi, by have := (lastAt_some hi).1; omega⟩
        obtain ⟨ix, hix0⟩ : ∃ ix : Nat → Nat, ∀ q, q < kn → lastAt ks ((keysB ks).getD q ⟨#[]⟩) ks.length = some (ix q) ∧ ix q < k := by
          refine ⟨fun q => (lastAt ks ((keysB ks).getD q ⟨#[]⟩) ks.length).getD 0, fun q hq => ?_⟩
          obtain ⟨i, h1, h2⟩ := hixa q hq
          show _ = some ((lastAt ks ((keysB ks).getD q ⟨#[]⟩) ks.length).getD 0) ∧ (lastAt ks ((keysB ks).getD q ⟨#[]⟩) ks.length).getD 0 < k
          rw [h1]; exact ⟨rfl, h2⟩
        have HIX := Lib.hid hix0
        have HCR := Lib.hid hcr
        have HCV := Lib.hid hcv
        have HC7 := Lib.hid hcs7
        clear hix0 hixa hcr hcv hcs7
        obtain ⟨i7, hi7, hp7, hq7, hr7⟩ := info_parts infoV7
        go_upto_region 10 with fail
        have hbx := World.alloc_heap_new w2 (.cells #[.int .i64 6, .bool false, .slice none 0 0, .int .i64 0, .string ⟨#[]⟩, .slice none 0 0, .slice K1 kn kc1] 28)
        have hb3 : Below w2.heap.size w2 (w2.alloc (.cells #[.int .i64 6, .bool false, .slice none 0 0, .int .i64 0, .string ⟨#[]⟩, .slice none 0 0, .slice K1 kn kc1] 28)) := (Below.refl _ w2).alloc (Nat.le_refl _) _
        generalize (w2.alloc (.cells #[.int .i64 6, .bool false, .slice none 0 0, .int .i64 0, .string ⟨#[]⟩, .slice none 0 0, .slice K1 kn kc1] 28)) = w3 at *
        obtain ⟨x0, x1, x2, x3, x4, x5, x6⟩ := box7_of hbx
        go_upto_region 11 with fail
        clear x0 x1 x2 x3 x4 x5 x6
        go_loopw [38] (fun i wr => ∃ (j : Nat) (L1 : Option Addr) (lc1 : Nat), j ≤ kn ∧ i = .int .i64 (j : Int) ∧ wr.heap[w2.heap.size]? = some (.cells #[.int .i64 6, .bool false, .slice none 0 0, .int .i64 0, .string ⟨#[]⟩, .slice L1 j lc1, .slice K1 kn kc1] 28) ∧ wr.ownsRow (w2.heap.size + 1) 28 7 (.slice L1 j lc1) j (flatC cs ix j) ∧ Below w2.heap.size w2 wr ∧ w2.heap.size + 1 ≤ wr.heap.size) (fun i _ => kn - (RowKit.intOf i).toNat)
        case atStart => exact ⟨0, none, 0, Nat.zero_le _, rfl, hbx, World.ownsRow_nil _ _ _ _, hb3, (Array.getElem?_eq_some_iff.1 hbx).1⟩
        case round =>
          clear hbx hb3
          obtain ⟨j, L1, lc1, hjk, rfl, hbx, hown, hbel, hszw⟩ := hrel
          have HBX := Lib.hid hbx
          have HOWN := Lib.hid hown
          have HBEL := Lib.hid hbel
          clear hbx hown hbel
          by_cases hjn : j < kn
          · obtain ⟨hix, hixk⟩ := HIX.out j hjn
            obtain ⟨s, hs⟩ : ∃ s, (keysB ks).getD j ⟨#[]⟩ = s := ⟨_, rfl⟩
            rw [hs] at hix
            have hssz : s.size ≤ maxLen := by
              obtain ⟨h1, h2, _⟩ := lastAt_some hix
              have h3 := (HK.out.getD (k := ix j) (by omega)).choose_spec.choose_spec.2.2.2
              rw [h2] at h3
              unfold maxLen; omega
            rw [hkl] at hix
            obtain ⟨i0, hi0⟩ : ∃ i0, ix j = i0 := ⟨_, rfl⟩
            rw [hi0] at hix hixk
            obtain ⟨g, hgK, hgb⟩ : ∃ g, K1 = some ⟨g, 0, none⟩ ∧ g < w2.heap.size := by
              rcases HRW2.out.2 with ⟨e1, e2⟩ | ⟨g, cap, cur, e1, _, e3, _⟩
              · have := HRW2.out.1; rw [e2] at this; simp at this; omega
              · injection e1 with e4; exact ⟨g, e4, (Array.getElem?_eq_some_iff.1 e3).1⟩
            subst hgK
            have hst : (strs (keysB ks))[j]? = some (.string s) := by
              have h2 := HKN.out
              unfold strs
              rw [List.getElem?_map, List.getElem?_eq_getElem (by omega)]
              rw [List.getD_eq_getElem?_getD, List.getElem?_eq_getElem (by omega)] at hs
              simp at hs
              simp [hs]
            have hck : wr.cell? ⟨g, j, none⟩ = some (.string s) := (HBEL.out.cell (p := ⟨g, j, none⟩) hgb).trans ((HRW2.out.cellAt j (by omega)).trans hst)
            obtain ⟨b, off, rfl, hSb, hc7⟩ := HCR.out (by omega)
            obtain ⟨hl7, hcc⟩ := hc7 i0 hixk
            obtain ⟨a0, a1, a2, a3, a4, a5, a6, he7⟩ := list7 hl7
            have hbw : b < w2.heap.size := by have h1 := HS.out b hSb; have h2 := hb0.size; have h3 := HB02.out.size; omega
            have hce : ∀ t, t < 7 → wr.cell? ⟨b, off + (i0 * 7 + t), none⟩ = [a0, a1, a2, a3, a4, a5, a6][t]? := fun t ht => by
              rw [← he7, ← hcc t ht]
              refine (HBEL.out.cell (p := ⟨b, off + (i0 * 7 + t), none⟩) hbw).trans ?_
              refine (HB02.out.cell (p := ⟨b, off + (i0 * 7 + t), none⟩) ?_).trans (hb0.cell (p := ⟨b, off + (i0 * 7 + t), none⟩) (HS.out b hSb))
              have h1 := HS.out b hSb; have h2 := hb0.size
              show b < w0.heap.size
              omega
            have d0 : wr.cell? ⟨b, off + i0 * 7, none⟩ = some a0 := hce 0 (by omega)
            have d1 : wr.cell? ⟨b, off + i0 * 7 + 1, none⟩ = some a1 := by have := hce 1 (by omega); rwa [← Nat.add_assoc] at this
            have d2 : wr.cell? ⟨b, off + i0 * 7 + 2, none⟩ = some a2 := by have := hce 2 (by omega); rwa [← Nat.add_assoc] at this
            have d3 : wr.cell? ⟨b, off + i0 * 7 + 3, none⟩ = some a3 := by have := hce 3 (by omega); rwa [← Nat.add_assoc] at this
            have d4 : wr.cell? ⟨b, off + i0 * 7 + 4, none⟩ = some a4 := by have := hce 4 (by omega); rwa [← Nat.add_assoc] at this
            have d5 : wr.cell? ⟨b, off + i0 * 7 + 5, none⟩ = some a5 := by have := hce 5 (by omega); rwa [← Nat.add_assoc] at this
            have d6 : wr.cell? ⟨b, off + i0 * 7 + 6, none⟩ = some a6 := by have := hce 6 (by omega); rwa [← Nat.add_assoc] at this
            have hlt0' : w0.heap.size < w2.heap.size := by omega
            have hmapr := map_keep HM2.out (HBEL.out.block _ hlt0')
            have HMR := Lib.hid hmapr
            have HST := Lib.hid hst
            have HI0 := Lib.hid hi0
            have HE7 := Lib.hid he7
            have hone : ∀ u ∈ [a0, a1, a2, a3, a4, a5, a6], u.oneCell' = true := by rw [← he7]; exact (HCV.out i0 _ (List.getElem?_eq_getElem (by omega))).one.2
            have hob : ∀ q, (Value.slice L1 j lc1).ownBlock = some q → w2.heap.size + 1 ≤ q := fun q e => by
              rcases HOWN.out.2 with ⟨e1, _⟩ | ⟨g2, cap, cur, e1, e2, _⟩
              · rw [e1] at e; simp [Value.ownBlock] at e
              · rw [e1] at e; simp [Value.ownBlock] at e; omega
            have HONE := Lib.hid hone
            have HOB := Lib.hid hob
            have hlt : (j : Int) < (kn : Int) := by omega
            have hj0 : (0 : Int) ≤ (j : Int) := by omega
            have hjt : ((j : Int)).toNat = j := by omega
            have hjw : IntKind.i64.wrap ((j : Int) + 1) = (j : Int) + 1 := IntWalk.i64_in _ (by omega)
            have hi0a : (0 : Int) ≤ (i0 : Int) := by omega
            have hi0b : (i0 : Int) < (k : Int) := by omega
            have hi0t : ((i0 : Int)).toNat = i0 := by omega
            have hi0w : IntKind.i64.wrap (i0 : Int) = (i0 : Int) := IntWalk.i64_in _ (by omega)
            obtain ⟨y0, y1, y2, y3, y4, y5, y6⟩ := box7_of HBX.out
            clear hs hst hmapr hce hcc hc7 hl7 he7 hi0 hone hob y0 y1 y2 y3 y4 y6
            go_upto_region 13 with fail
            refine wp_region_held_drew (S := fun w' => w'.ownsMap Tryz.prog 9 (plainElem (H := Unit) Tryz.prog 3) w0.heap.size k (lastD ks k) ∧ w'.cell? ⟨b, off + i0 * 7, none⟩ = some a0 ∧ w'.cell? ⟨b, off + i0 * 7 + 1, none⟩ = some a1 ∧ w'.cell? ⟨b, off + i0 * 7 + 2, none⟩ = some a2 ∧ w'.cell? ⟨b, off + i0 * 7 + 3, none⟩ = some a3 ∧ w'.cell? ⟨b, off + i0 * 7 + 4, none⟩ = some a4 ∧ w'.cell? ⟨b, off + i0 * 7 + 5, none⟩ = some a5 ∧ w'.cell? ⟨b, off + i0 * 7 + 6, none⟩ = some a6) (by kernel_rfl) ⟨HMR.out, d0, d1, d2, d3, d4, d5, d6⟩ (fun hHeld => ?_)
            (try simp only [List.size_toArray, List.length_cons, List.length_nil, Nat.reduceAdd, Array.replicate_succ, Array.replicate_zero, List.push_toArray, List.append_toArray, List.nil_append, List.cons_append])
            refine wpAnyH_take (i := 0) (oi := ⟨_, _, _, _, _, _⟩) (v := ?_) rfl (by kernel_rfl) (by kernel_rfl) (by kernel_rfl) (fun _ _ _ h => h) (Or.inl ⟨by rfl, ?_⟩) (by assumption) ?_
            rotate_left
            · intro w hSw
              (try dsimp only at hSw)
              go_split_ands
              go_simp
              try with_reducible rfl
            try simp only [Act.put, List.setIfInBounds_toArray, List.set_cons_zero, List.set_cons_succ]
            refine wpAnyH_take (i := 2) (oi := ⟨_, _, _, _, _, _⟩) (v := ?_) rfl (by kernel_rfl) (by kernel_rfl) (by kernel_rfl) (fun _ _ _ h => h) (Or.inl ⟨by rfl, ?_⟩) (by assumption) ?_
            rotate_left
            · intro w hSw
              (try dsimp only at hSw)
              go_split_ands
              go_simp
              try with_reducible rfl
            try simp only [Act.put, List.setIfInBounds_toArray, List.set_cons_zero, List.set_cons_succ]
            refine wpAnyH_take (i := 3) (oi := ⟨_, _, _, _, _, _⟩) (v := ?_) rfl (by kernel_rfl) (by kernel_rfl) (by kernel_rfl) (fun _ _ _ h => h) (Or.inl ⟨by rfl, ?_⟩) (by assumption) ?_
            rotate_left
            · intro w hSw
              (try dsimp only at hSw)
              go_split_ands
              go_simp
              try with_reducible rfl
            try simp only [Act.put, List.setIfInBounds_toArray, List.set_cons_zero, List.set_cons_succ]
            refine wpAnyH_take (i := 4) (oi := ⟨_, _, _, _, _, _⟩) (v := ?_) rfl (by kernel_rfl) (by kernel_rfl) (by kernel_rfl) (fun _ _ _ h => h) (Or.inl ⟨by rfl, ?_⟩) (by assumption) ?_
            rotate_left
            · intro w hSw
              (try dsimp only at hSw)
              go_split_ands
              go_simp
              try with_reducible rfl
            try simp only [Act.put, List.setIfInBounds_toArray, List.set_cons_zero, List.set_cons_succ]
            refine wpAnyH_take (i := 5) (oi := ⟨_, _, _, _, _, _⟩) (v := ?_) rfl (by kernel_rfl) (by kernel_rfl) (by kernel_rfl) (fun _ _ _ h => h) (Or.inl ⟨by rfl, ?_⟩) (by assumption) ?_
            rotate_left
            · intro w hSw
              (try dsimp only at hSw)
              go_split_ands
              have hlk := look_last (by assumption) hssz hix
              go_simp
              try with_reducible rfl
            try simp only [Act.put, List.setIfInBounds_toArray, List.set_cons_zero, List.set_cons_succ]
            refine wpAnyH_take (i := 6) (oi := ⟨_, _, _, _, _, _⟩) (v := ?_) rfl (by kernel_rfl) (by kernel_rfl) (by kernel_rfl) (fun _ _ _ h => h) (Or.inl ⟨by rfl, ?_⟩) (by assumption) ?_
            rotate_left
            · intro w hSw
              (try dsimp only at hSw)
              go_split_ands
              go_simp
              try with_reducible rfl
            try simp only [Act.put, List.setIfInBounds_toArray, List.set_cons_zero, List.set_cons_succ]
            refine wpAnyH_take (i := 7) (oi := ⟨_, _, _, _, _, _⟩) (v := ?_) rfl (by kernel_rfl) (by kernel_rfl) (by kernel_rfl) (fun _ _ _ h => h) (Or.inl ⟨by rfl, ?_⟩) (by assumption) ?_
            rotate_left
            · intro w hSw
              (try dsimp only at hSw)
              go_split_ands
              go_simp
              try with_reducible rfl
            try simp only [Act.put, List.setIfInBounds_toArray, List.set_cons_zero, List.set_cons_succ]
            have hdw : Below w2.heap.size w2 wr.drew := HBEL.out.drew
            have hal : ∀ o, Below wr.heap.size wr.drew (wr.drew.alloc o) := fun o => (Below.refl wr.heap.size wr.drew).alloc (Nat.le_refl _) o
            have hbb : b < wr.heap.size := by omega
            have hSal : ∀ o, (wr.drew.alloc o).ownsMap Tryz.prog 9 (plainElem (H := Unit) Tryz.prog 3) w0.heap.size k (lastD ks k) ∧ (wr.drew.alloc o).cell? ⟨b, off + i0 * 7, none⟩ = some a0 ∧ (wr.drew.alloc o).cell? ⟨b, off + i0 * 7 + 1, none⟩ = some a1 ∧ (wr.drew.alloc o).cell? ⟨b, off + i0 * 7 + 2, none⟩ = some a2 ∧ (wr.drew.alloc o).cell? ⟨b, off + i0 * 7 + 3, none⟩ = some a3 ∧ (wr.drew.alloc o).cell? ⟨b, off + i0 * 7 + 4, none⟩ = some a4 ∧ (wr.drew.alloc o).cell? ⟨b, off + i0 * 7 + 5, none⟩ = some a5 ∧ (wr.drew.alloc o).cell? ⟨b, off + i0 * 7 + 6, none⟩ = some a6 := fun o =>
              ⟨HMR.out.drew.alloc o, ((hal o).cell (p := ⟨b, off + i0 * 7, none⟩) hbb).trans d0, ((hal o).cell (p := ⟨b, off + i0 * 7 + 1, none⟩) hbb).trans d1, ((hal o).cell (p := ⟨b, off + i0 * 7 + 2, none⟩) hbb).trans d2, ((hal o).cell (p := ⟨b, off + i0 * 7 + 3, none⟩) hbb).trans d3, ((hal o).cell (p := ⟨b, off + i0 * 7 + 4, none⟩) hbb).trans d4, ((hal o).cell (p := ⟨b, off + i0 * 7 + 5, none⟩) hbb).trans d5, ((hal o).cell (p := ⟨b, off + i0 * 7 + 6, none⟩) hbb).trans d6⟩
            have y5a : ∀ o, (wr.drew.alloc o).cell? ⟨w2.heap.size, 5, none⟩ = some (.slice L1 j lc1) := fun o => ((hal o).cell (p := ⟨w2.heap.size, 5, none⟩) (by show w2.heap.size < wr.heap.size; omega)).trans y5
            refine wpAnyH_ready (rs := [1, 8]) (by kernel_rfl) (by simp) (AllReadyH.cons (o := ⟨_, _, _, _, _, _⟩) rfl (fun K hK => ?ga) (AllReadyH.cons (o := ⟨_, _, _, _, _, _⟩) rfl (fun K hK => ?gb) AllReadyH.nil))
            case' ga =>
              go_simp
              refine hK.out _ _ ⟨HMR.out, d0, d1, d2, d3, d4, d5, d6⟩ (fun hHeld2 => ?_)
              clear hK K
              try simp only [Act.put, List.setIfInBounds_toArray, List.set_cons_zero, List.set_cons_succ]
              refine wpAnyH_ready (rs := [8]) (by kernel_rfl) (by simp) (AllReadyH.cons (o := ⟨_, _, _, _, _, _⟩) rfl (fun K hK => ?_) AllReadyH.nil)
              go_simp
              refine hK.out _ _ (hSal _) (fun hHeld3 => ?_)
              clear hK K hHeld2
            case' gb =>
              go_simp
              refine hK.out _ _ (hSal _) (fun hHeld2 => ?_)
              clear hK K
              try simp only [Act.put, List.setIfInBounds_toArray, List.set_cons_zero, List.set_cons_succ]
              refine wpAnyH_ready (rs := [1]) (by kernel_rfl) (by simp) (AllReadyH.cons (o := ⟨_, _, _, _, _, _⟩) rfl (fun K hK => ?_) AllReadyH.nil)
              have y5b : (wr.alloc (.cells #[a0, a1, a2, a3, a4, a5, a6] 28)).drew.cell? ⟨w2.heap.size, 5, none⟩ = some (.slice L1 j lc1) := y5a (.cells #[a0, a1, a2, a3, a4, a5, a6] 28)
              go_simp
              refine hK.out _ _ (hSal _) (fun hHeld3 => ?_)
              clear hK K hHeld2 y5b
            all_goals
              try simp only [Act.put, List.setIfInBounds_toArray, List.set_cons_zero, List.set_cons_succ]
              refine wpAnyH_ready (rs := [9]) (by kernel_rfl) (by simp) (AllReadyH.cons (o := ⟨_, _, _, _, _, _⟩) rfl (fun K hK => ?_) AllReadyH.nil)
              refine step_append_at (base := w2.heap.size + 1) (e := 28) (v := .slice L1 j lc1) (n := j) (xs := flatC cs ix j) (news := [a0, a1, a2, a3, a4, a5, a6]) (m := 1) (c := 1) (ad := ⟨wr.heap.size, 0, none⟩) rfl (.tmp 43) (.tmp 50) 25 rfl Tryz.underlying25 hi7 hp7 hq7 hr7 rfl (by decide) rfl (HOWN.out.drew.alloc _) rfl rfl (new7 wr a0 a1 a2 a3 a4 a5 a6 28) HONE.out (by unfold maxLen; omega) (by omega) (by simp; omega) ?_
              intro v' w5 hown5 hg5 _ _
              obtain ⟨g', cap', rfl⟩ := ownsRow_succ hown5
              have hb5 : Below (w2.heap.size + 1) wr w5 := ((Below.refl (w2.heap.size + 1) wr).drew.alloc (by simpa using hszw) _).grown hg5 (by simp; omega) (fun q e => HOB.out q e)
              have hbx5 := (hb5.block _ (by omega)).trans HBX.out
              have fz : ∀ j, w5.frozen? ⟨w2.heap.size, j, none⟩ = false := fun j => frozen_of_row w5 _ j _ _ hbx5
              have hm5 := map_keep HMR.out (hb5.block _ (by omega))
              have hbb5 : b < w2.heap.size + 1 := by omega
              have e0 := (hb5.cell (p := ⟨b, off + i0 * 7, none⟩) hbb5).trans d0
              have e1 := (hb5.cell (p := ⟨b, off + i0 * 7 + 1, none⟩) hbb5).trans d1
              have e2 := (hb5.cell (p := ⟨b, off + i0 * 7 + 2, none⟩) hbb5).trans d2
              have e3 := (hb5.cell (p := ⟨b, off + i0 * 7 + 3, none⟩) hbb5).trans d3
              have e4 := (hb5.cell (p := ⟨b, off + i0 * 7 + 4, none⟩) hbb5).trans d4
              have e5 := (hb5.cell (p := ⟨b, off + i0 * 7 + 5, none⟩) hbb5).trans d5
              have e6 := (hb5.cell (p := ⟨b, off + i0 * 7 + 6, none⟩) hbb5).trans d6
              refine hK.out _ _ ⟨hm5, e0, e1, e2, e3, e4, e5, e6⟩ (fun hHeld4 => ?_)
              clear hK K
              try simp only [Act.put, List.setIfInBounds_toArray, List.set_cons_zero, List.set_cons_succ]
              refine wpAnyH_take (i := 10) (oi := ⟨_, _, _, _, _, _⟩) (v := ?_) rfl (by kernel_rfl) (by kernel_rfl) (by kernel_rfl) (fun _ _ _ h => h) (Or.inl ⟨by rfl, ?_⟩) (by assumption) ?_
              rotate_left
              · intro w hSw
                (try dsimp only at hSw)
                go_split_ands
                go_simp
                try with_reducible rfl
              try simp only [Act.put, List.setIfInBounds_toArray, List.set_cons_zero, List.set_cons_succ]
              obtain ⟨x0, x1, x2, x3, x4, x5, x6⟩ := box7_of hbx5
              refine wpAnyH_ready (rs := [11]) (by kernel_rfl) (by simp) (AllReadyH.cons (o := ⟨_, _, _, _, _, _⟩) rfl (fun K hK => ?_) AllReadyH.nil)
              go_simp
              have hne : ∀ p : Addr, p.block < w2.heap.size → (w5.setCell ⟨w2.heap.size, 5, none⟩ (.slice (some ⟨g', 0, none⟩) (j + 1) cap')).cell? p = w5.cell? p := fun p hp => World.cell?_of_block (Below.heap_setCell _ _ _ _ (by show p.block ≠ w2.heap.size; omega))
              refine hK.out _ _ ⟨map_keep hm5 (Below.heap_setCell _ _ _ _ (by show w0.heap.size ≠ w2.heap.size; omega)), (hne _ hbw).trans e0, (hne _ hbw).trans e1, (hne _ hbw).trans e2, (hne _ hbw).trans e3, (hne _ hbw).trans e4, (hne _ hbw).trans e5, (hne _ hbw).trans e6⟩ (fun hHeld5 => ?_)
              clear hK K
              try simp only [Act.put, List.setIfInBounds_toArray, List.set_cons_zero, List.set_cons_succ]
              refine wpAnyH_done (by kernel_rfl) ?_ _
              have n1 := ownsRow_setCell_below hown5 (a := ⟨w2.heap.size, 5, none⟩) (by show w2.heap.size < w2.heap.size + 1; omega) (.slice (some ⟨g', 0, none⟩) (j + 1) cap')
              rw [← HE7.out, ← HI0.out, ← flatC_succ] at n1
              have n2 : (w5.setCell ⟨w2.heap.size, 5, none⟩ (.slice (some ⟨g', 0, none⟩) (j + 1) cap')).heap[w2.heap.size]? = some (.cells #[.int .i64 6, .bool false, .slice none 0 0, .int .i64 0, .string ⟨#[]⟩, .slice (some ⟨g', 0, none⟩) (j + 1) cap', .slice (some ⟨g, 0, none⟩) kn kc1] 28) := setCell_box hbx5 _
              have n3 : Below w2.heap.size w2 (w5.setCell ⟨w2.heap.size, 5, none⟩ (.slice (some ⟨g', 0, none⟩) (j + 1) cap')) := (HBEL.out.trans (hb5.mono (by omega))).setCell (Nat.le_refl _) _
              have n4 : w2.heap.size + 1 ≤ (w5.setCell ⟨w2.heap.size, 5, none⟩ (.slice (some ⟨g', 0, none⟩) (j + 1) cap')).heap.size := by have := hb5.size; simp [World.setCell]; omega
              generalize (w5.setCell ⟨w2.heap.size, 5, none⟩ (.slice (some ⟨g', 0, none⟩) (j + 1) cap')) = W7 at *
              have N1 := Lib.hid n1
              have N2 := Lib.hid n2
              clear n1 n2 hHeld hHeld3 hHeld4 hHeld5 hne e0 e1 e2 e3 e4 e5 e6 x0 x1 x2 x3 x4 x5 x6 hbx5 hm5 hSal y5a y5 d0 d1 d2 d3 d4 d5 d6 hal hdw hg5 hown5 fz
              go_wp2_with fail
              go_roundw
              case rel => exact ⟨j + 1, _, _, by omega, by go_num, N2.out, N1.out, n3, n4⟩
              case measure => first | (simp [RowKit.intOf]; omega) | (simp [RowKit.intOf]; omega) | (show _ - _ < _ - _; simp only [RowKit.intOf]; omega)
          · have hge : ¬ (j : Int) < (kn : Int) := by omega
            obtain rfl : j = kn := by omega
            have hB0 : Below w.heap.size w wr := (hb0.trans (HB02.out.mono hb0.size)).trans (HBEL.out.mono (by omega))
            have hobj : VIn wr (fun b => b < wr.heap.size) (objV ks l) [.int .i64 6, .bool false, .slice none 0 0, .int .i64 0, .string ⟨#[]⟩, .slice L1 j lc1, .slice K1 j kc1] := by
              refine .mk (cs := fun i => cs (ix i)) (Rd.nil _ _ _) (by omega) (by decide) ⟨HKN.out, fun h0 => ?_⟩ (by omega) (by rw [List.length_map]; exact HKN.out) (by omega) ?_ (fun h0 => ?_) (fun i x hi => ?_)
              · rcases HRW2.out.2 with ⟨e1, e2⟩ | ⟨g, cap, cur, e1, _, e3, _⟩
                · have := HRW2.out.1; rw [e2] at this; simp at this; omega
                · injection e1 with e4
                  subst e4
                  have hgb := (Array.getElem?_eq_some_iff.1 e3).1
                  refine ⟨g, 0, rfl, by show g < wr.heap.size; omega, fun i s hi => ?_⟩
                  have h2 := HKN.out
                  have hil := (List.getElem?_eq_some_iff.1 hi).1
                  have hst : (strs (keysB ks))[i]? = some (.string s) := by unfold strs; rw [List.getElem?_map, hi]; rfl
                  rw [Nat.zero_add]
                  refine ⟨(HBEL.out.cell (p := ⟨g, i, none⟩) hgb).trans ((HRW2.out.cellAt i (by omega)).trans hst), ?_⟩
                  have hmem : s ∈ keysB ks := List.mem_of_getElem? hi
                  obtain ⟨q, hq⟩ := Option.isSome_iff_exists.1 (keysB_mem.1 hmem)
                  obtain ⟨h5, h6, _⟩ := lastAt_some hq
                  have h3 := (HK.out.getD (k := q) (by omega)).choose_spec.choose_spec.2.2.2
                  rw [h6] at h3
                  exact h3
              · rcases HOWN.out.2 with ⟨e1, e2⟩ | ⟨g, cap, cur, e1, _, _, h4, _⟩
                · injection e1 with e3 e4 e5; omega
                · injection e1 with e3 e4 e5; omega
              · rcases HOWN.out.2 with ⟨e1, e2⟩ | ⟨g, cap, cur, e1, _, e3, _⟩
                · injection e1 with e3 e4 e5; omega
                · injection e1 with e4 e5 e6
                  subst e4
                  refine ⟨g, 0, rfl, (Array.getElem?_eq_some_iff.1 e3).1, fun i hi => ⟨HC7.out _ (HIX.out i hi).2, fun t ht => ?_⟩⟩
                  rw [Nat.zero_add]
                  have h7 : ∀ q, q < j → (cs (ix q)).length = 7 := fun q hq => HC7.out _ (HIX.out q hq).2
                  exact (HOWN.out.cellAt (i * 7 + t) (by omega)).trans (flatC_get h7 i t hi ht)
              · rw [List.getElem?_map, Option.map_eq_some_iff] at hi
                obtain ⟨s, hs, rfl⟩ := hi
                have h2 := HKN.out
                have hil := (List.getElem?_eq_some_iff.1 hs).1
                obtain ⟨h3, h4⟩ := HIX.out i (by omega)
                rw [List.getD_eq_getElem?_getD, hs] at h3
                have h5 : lastV ks l s = l.getD (ix i) VT0 := by
                  unfold lastV
                  have h6 : lastAt ks s ks.length = some (ix i) := h3
                  rw [h6]
                have h6 : l[ix i]? = some (lastV ks l s) := by rw [h5, List.getD_eq_getElem?_getD, List.getElem?_eq_getElem (by omega)]; rfl
                exact ((HCV.out _ _ h6).keep fun p hp => hB0.cell (HS.out _ hp)).more fun b hb => Nat.lt_of_lt_of_le (HS.out b hb) hB0.size
            have hTr := HTT.out.below hB0
            have HC := VCheck_c wr hTr hobj (fun b h => h)
            rw [HER.out] at HC
            have HOBJ := Lib.hid hobj
            have HB0 := Lib.hid hB0
            clear hobj hB0 hTr
            obtain ⟨x0, x1, x2, x3, x4, x5, x6⟩ := box7_of HBX.out
            go_wp2_with fail
            refine HC.mono ?_
            rintro e' w6 ⟨rfl, hb6⟩
            clear HC x0 x1 x2 x3 x4 x5 x6
            have hbr := (HB02.out.block w.heap.size (by omega)).trans HR0.out
            have hbr2 := (hb6.block w.heap.size (by omega)).trans ((HBEL.out.block w.heap.size (by omega)).trans hbr)
            have hbx6 := (hb6.block w2.heap.size (by omega)).trans HBX.out
            have HBR2 := Lib.hid hbr2
            have HBX6 := Lib.hid hbx6
            clear hbr hbr2 hbx6
            have hBa : Below w.heap.size w w6 := HB0.out.trans (hb6.mono HB0.out.size)
            have HBA := Lib.hid hBa
            clear hBa
            by_cases hE0 : E = 0
            · subst hE0
              have hR : R = objV ks l := by rw [← HR.out]; unfold resO; rw [if_pos HE.out]
              have hok : okV (objV ks l) := HER.out
              have HC2 := copied_c w6 (HOBJ.out.stay hb6 fun b h => h) (fun b h => Nat.lt_of_lt_of_le h hb6.size) (by have := under_ok hok; omega)
              have hsz6 := hb6.size
              have HHR := Lib.hid hR
              clear hok hR
              obtain ⟨x0, x1, x2, x3, x4, x5, x6⟩ := box7_of HBX6.out
              go_wp2_with fail
              refine HC2.mono ?_
              rintro e' w7 ⟨cs', rfl, hv, hb7⟩
              clear HC2 x0 x1 x2 x3 x4 x5 x6
              obtain ⟨A1, n1, c1, LA1, ln1, lc2, KA1, kn1, kc2, rfl, _⟩ := hv.parts
              have hmz := (hb7.block w.heap.size (by omega)).trans HBR2.out
              obtain ⟨z0, z1, z2, z3, z4, z5, z6⟩ := box7_of hmz
              have fz : ∀ j, w7.frozen? ⟨w.heap.size, j, none⟩ = false := fun j => frozen_of_row w7 _ j _ _ hmz
              have HV := Lib.hid hv
              clear hv hmz
              go_wp2_with fail
              refine bodyPost_ret (v := .tuple #[.agg #[.int .i64 6, .bool false, .slice A1 n1 c1, .int .i64 0, .string ⟨#[]⟩, .slice LA1 ln1 lc2, .slice KA1 kn1 kc2], .int .i64 0]) (by simp [results, Tryz.results19, go_sem, z0, z1, z2, z3, z4, z5, z6]) rfl ?_
              refine ⟨[.int .i64 6, .bool false, .slice A1 n1 c1, .int .i64 0, .string ⟨#[]⟩, .slice LA1 ln1 lc2, .slice KA1 kn1 kc2], rfl, ?_, below_seven (HBA.out.trans (hb7.mono HBA.out.size)) (Nat.le_refl _) _ _ _ _ _ _ _⟩
              rw [HHR.out]
              refine (HV.out.keep fun p hp => ?_).more fun b hb => ⟨by have := hb.1; have := HBA.out.size; omega, ?_⟩
              · have h1 := hp.1
                exact cell_seven (by have := HBA.out.size; omega) _ _ _ _ _ _ _
              · have := hb.2
                simpa [World.setCell] using this
            · have hR : R = VT0 := by rw [← HR.out]; unfold resO; rw [if_neg (by rw [HE.out]; exact hE0)]
              have hne : ¬ (E : Int) = 0 := by omega
              have hne2 : ((E : Int) == 0) = false := by rw [beq_eq_false_iff_ne]; exact hne
              obtain ⟨z0, z1, z2, z3, z4, z5, z6⟩ := box7_of HBR2.out
              have fz : ∀ j, w6.frozen? ⟨w.heap.size, j, none⟩ = false := fun j => frozen_of_row w6 _ j _ _ HBR2.out
              have HHR := Lib.hid hR
              clear hR
              go_wp2_with fail
              refine bodyPost_ret (v := .tuple #[.agg #[.int .i64 0, .bool false, .slice none 0 0, .int .i64 0, .string ⟨#[]⟩, .slice none 0 0, .slice none 0 0], .int .i64 (E : Int)]) (by simp [results, Tryz.results19, go_sem, z0, z1, z2, z3, z4, z5, z6]) rfl ?_
              refine ⟨[.int .i64 0, .bool false, .slice none 0 0, .int .i64 0, .string ⟨#[]⟩, .slice none 0 0, .slice none 0 0], rfl, ?_, below_seven HBA.out (Nat.le_refl _) _ _ _ _ _ _ _⟩
              rw [HHR.out]
              exact vin_zero _ _
  · have hE3 : E = 3 := by rw [← HE.out]; unfold errO; rw [if_neg (by omega)]
    have hR : R = VT0 := by rw [← HR.out]; unfold resO; rw [if_neg (by rw [HE.out, hE3]; decide)]
    subst hE3
    have hne : ¬ (n : Int) = (m : Int) := by omega
    have hne2 : ((n : Int) == (m : Int)) = false := by rw [beq_eq_false_iff_ne]; exact hne
    have HHR := Lib.hid hR
    clear hR hz0 hmm
    go_enter Tryz.func19, Tryz.ntmps19
    go_upto_region 1 with fail
    generalize (w.alloc (.cells #[.int .i64 0, .bool false, .slice none 0 0, .int .i64 0, .string ⟨#[]⟩, .slice none 0 0, .slice none 0 0] 28)) = w0 at *
    obtain ⟨z0, z1, z2, z3, z4, z5, z6⟩ := box7_of hr0
    have fz : ∀ j, w0.frozen? ⟨w.heap.size, j, none⟩ = false := fun j => frozen_of_row _ _ j _ _ hr0
    clear hr0
    go_wp2_with fail
    refine bodyPost_ret (v := .tuple #[.agg #[.int .i64 0, .bool false, .slice none 0 0, .int .i64 0, .string ⟨#[]⟩, .slice none 0 0, .slice none 0 0], .int .i64 3]) (by simp [results, Tryz.results19, go_sem, z0, z1, z2, z3, z4, z5, z6]) rfl ?_
    refine ⟨[.int .i64 0, .bool false, .slice none 0 0, .int .i64 0, .string ⟨#[]⟩, .slice none 0 0, .slice none 0 0], rfl, ?_, below_seven hb0 (Nat.le_refl _) _ _ _ _ _ _ _⟩
    rw [HHR.out]
    exact vin_zero _ _
end Go.Proofs.YtpmdcahomkdfmaaGreatDoor
