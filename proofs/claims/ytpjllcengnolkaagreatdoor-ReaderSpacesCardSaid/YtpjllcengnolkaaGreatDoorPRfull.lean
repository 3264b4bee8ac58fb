/-
  The map of the last places at which a key stands, as a datum. Pure.
  A value that may be has no more under it than Check counts. Pure.
  The keys of an object that is made, each once, and the value that stands last with each. Pure.
  Contract of value's Object: each key once, rising, with the last value that stands with it.
  A whole character at the beginning of octets is read the same, whatever follows. Pure, no program.
  Whole characters at the beginning of octets: over octets. Pure, no program.
-/
import Derived.Test.YtpjllcengnolkaaGreatDoorPVcpy
import Derived.Maps.OwnOps
import Derived.Maps.OwnSet
import Derived.Test.YtpjllcengnolkaaGreatDoorPVord
import Derived.Sort.KeysCollected
import Derived.Test.YtpjllcengnolkaaGreatDoorIter
import Derived.Deep.RegionHeld3
import Derived.Test.YtpjllcengnolkaaGreatDoorPLsc
set_option linter.unusedVariables false
set_option linter.unusedSimpArgs false
namespace Go.Proofs.YtpjllcengnolkaaGreatDoor
open Go.RowKit Go.Maps

def kL (s : ByteArray) : Lit := .string s.data.toList
theorem kL_inj {s t : ByteArray} (h : kL s = kL t) : s = t := by
  unfold kL at h
  injection h with h
  exact ByteArray.ext (Array.ext' h)
/-- The last of the first k places at which s stands. -/
def lastAt (ks : List ByteArray) (s : ByteArray) : Nat → Option Nat
  | 0 => none
  | k + 1 => if ks.getD k ⟨#[]⟩ = s then some k else lastAt ks s k
def lastD {H : Type} (ks : List ByteArray) : Nat → DataW H
  | 0 => .map []
  | k + 1 => (lastD ks k).put (kL (ks.getD k ⟨#[]⟩)) (.lit (.int .i64 (k : Int)))
theorem kL_key (s : ByteArray) : WideAt.IsKeyLit (kL s) := by unfold kL; trivial
theorem lastD_tidy {H : Type} (ks : List ByteArray) : ∀ k, Tidy (lastD (H := H) ks k)
  | 0 => tidy_empty
  | k + 1 => (lastD_tidy ks k).put (kL_key _) _
theorem lastD_at {H : Type} (ks : List ByteArray) (s : ByteArray) (z : DataW H) : ∀ k, (lastD ks k).atKey (kL s) z = match lastAt ks s k with | some i => .lit (.int .i64 (i : Int)) | none => z
  | 0 => atKey_of_not_has rfl z
  | k + 1 => by
    unfold lastD lastAt
    by_cases h : ks.getD k ⟨#[]⟩ = s
    · rw [if_pos h, h]
      exact atKey_put_same (lastD_tidy ks k).isMap (kL_key _) _ _
    · rw [if_neg h, atKey_put_other (fun e => h (kL_inj e).symm)]
      exact lastD_at ks s z k
theorem lastD_has {H : Type} (ks : List ByteArray) (s : ByteArray) : ∀ k, Maps.has (lastD (H := H) ks k) (kL s) = (lastAt ks s k).isSome
  | 0 => rfl
  | k + 1 => by
    unfold lastD lastAt
    by_cases h : ks.getD k ⟨#[]⟩ = s
    · rw [if_pos h, h]
      exact has_put_same (lastD_tidy ks k).isMap (kL_key _) _
    · rw [if_neg h, has_put_other (fun e => h (kL_inj e).symm)]
      exact lastD_has ks s k
theorem lastD_size {H : Type} (ks : List ByteArray) : ∀ k, Maps.size (lastD (H := H) ks k) ≤ k
  | 0 => Nat.le_refl _
  | k + 1 => by
    unfold lastD
    rw [size_put (lastD_tidy ks k)]
    have := lastD_size (H := H) ks k
    split <;> omega
end Go.Proofs.YtpjllcengnolkaaGreatDoor

namespace Go.Proofs.YtpjllcengnolkaaGreatDoor
open Go.RowKit Go.Maps

def VT0 : VT := .mk 0 false [] 0 ⟨#[]⟩ [] []
theorem mem_insert {H : Type} {x p : Lit × DataW H} : ∀ {l : List (Lit × DataW H)}, p ∈ DataW.insert x l → p = x ∨ p ∈ l
  | [], h => by simpa [DataW.insert] using h
  | y :: r, h => by
    unfold DataW.insert at h
    split at h
    · simpa using h
    · rcases List.mem_cons.1 h with h | h
      · exact .inr (by simp [h])
      · rcases mem_insert h with h | h
        · exact .inl h
        · exact .inr (by simp [h])
theorem lastD_es {H : Type} (ks : List ByteArray) : ∀ k, ∃ es, lastD (H := H) ks k = .map es ∧ ∀ p ∈ es, ∃ x, p.1 = .string x
  | 0 => ⟨[], rfl, fun p hp => by simp at hp⟩
  | k + 1 => by
    obtain ⟨es, he, h⟩ := lastD_es (H := H) ks k
    unfold lastD
    rw [he]
    refine ⟨_, rfl, fun p hp => ?_⟩
    rcases mem_insert hp with rfl | hp
    · exact ⟨_, rfl⟩
    · exact h p (List.mem_filter.1 hp).1
theorem lastD_nodup {H : Type} (ks : List ByteArray) (k : Nat) : (strKeys (lastD (H := H) ks k)).Nodup := by
  obtain ⟨es, he, h⟩ := lastD_es (H := H) ks k
  obtain ⟨es', he', hp⟩ := lastD_tidy (H := H) ks k
  rw [he] at he'
  injection he' with he'
  subst he'
  rw [he]
  show (es.map fun p => strOf p.1).Nodup
  refine List.pairwise_map.2 (hp.imp_of_mem fun {p q} hp' hq' hne e => hne ?_)
  obtain ⟨a, ha⟩ := h p hp'
  obtain ⟨b, hb⟩ := h q hq'
  rw [ha, hb] at e ⊢
  exact congrArg _ e
theorem lastD_mem {H : Type} (ks : List ByteArray) (k : Nat) (s : ByteArray) : s.data.toList ∈ strKeys (lastD (H := H) ks k) ↔ (lastAt ks s k).isSome = true := by
  rw [← lastD_has (H := H)]
  obtain ⟨es, he, h⟩ := lastD_es (H := H) ks k
  rw [he, has_eq, List.any_eq_true]
  show s.data.toList ∈ es.map (fun p => strOf p.1) ↔ _
  rw [List.mem_map]
  constructor
  · rintro ⟨p, hp, e⟩
    obtain ⟨a, ha⟩ := h p hp
    rw [ha] at e
    refine ⟨p, hp, ?_⟩
    rw [ha]
    have e' : a = s.data.toList := e
    rw [e']
    exact WideAt.sameKey_self (kL_key s)
  · rintro ⟨p, hp, e⟩
    have e' := WideAt.sameKey_eq e
    exact ⟨p, hp, by rw [e']; rfl⟩

/-- The keys, each once, as the sort leaves them. -/
def keysL (ks : List ByteArray) : List (List UInt8) := (strKeys (lastD (H := Unit) ks ks.length)).mergeSort leB
def keysB (ks : List ByteArray) : List ByteArray := (keysL ks).map fun x => ⟨x.toArray⟩
theorem keysB_mem {ks : List ByteArray} {s : ByteArray} : s ∈ keysB ks ↔ (lastAt ks s ks.length).isSome = true := by
  rw [← lastD_mem (H := Unit)]
  unfold keysB keysL
  rw [List.mem_map]
  constructor
  · rintro ⟨x, hx, rfl⟩
    simpa using List.mem_mergeSort.1 hx
  · intro h
    exact ⟨s.data.toList, List.mem_mergeSort.2 h, by simp⟩
theorem keysB_length (ks : List ByteArray) : (keysB ks).length ≤ ks.length := by
  unfold keysB keysL
  rw [List.length_map, List.length_mergeSort]
  have := lastD_size (H := Unit) ks ks.length
  obtain ⟨es, he, _⟩ := lastD_es (H := Unit) ks ks.length
  rw [he] at this ⊢
  show (es.map fun p => strOf p.1).length ≤ _
  rw [List.length_map]
  exact this
theorem lastAt_some {ks : List ByteArray} {s : ByteArray} : ∀ {k i : Nat}, lastAt ks s k = some i → i < k ∧ ks.getD i ⟨#[]⟩ = s ∧ ∀ j, i < j → j < k → ks.getD j ⟨#[]⟩ ≠ s
  | 0, i, h => by simp [lastAt] at h
  | k + 1, i, h => by
    unfold lastAt at h
    split at h
    · rename_i e
      injection h with h
      subst h
      exact ⟨by omega, e, fun j h1 h2 => absurd h1 (by omega)⟩
    · rename_i e
      obtain ⟨h1, h2, h3⟩ := lastAt_some h
      refine ⟨by omega, h2, fun j h4 h5 => ?_⟩
      by_cases hj : j = k
      · subst hj; exact e
      · exact h3 j h4 (by omega)
/-- What stands last with a key. -/
def lastV (ks : List ByteArray) (l : List VT) (s : ByteArray) : VT := match lastAt ks s ks.length with
  | some i => l.getD i VT0
  | none => VT0
/-- The object that is made. -/
def objV (ks : List ByteArray) (l : List VT) : VT := .mk 6 false [] 0 ⟨#[]⟩ ((keysB ks).map (lastV ks l)) (keysB ks)
end Go.Proofs.YtpjllcengnolkaaGreatDoor

namespace Go.Proofs.YtpjllcengnolkaaGreatDoor
open Go.RowKit Go.Maps

theorem keyLaw : Keyed Tryz.prog 9 := string_keyed Tryz.underlying9
theorem zeroI (w : World) : (zeroValue 3).run Tryz.prog w = .ok (.int .i64 0) w := by kernel_rfl
theorem RdT.getD {w : World} {S : Nat → Prop} {K : Option Addr} {n k : Nat} {ks : List ByteArray} (h : RdT w S K n ks) (hk : k < n) : ∃ b off, K = some ⟨b, off, none⟩ ∧ S b ∧ w.cell? ⟨b, off + k, none⟩ = some (.string (ks.getD k ⟨#[]⟩)) ∧ (ks.getD k ⟨#[]⟩).size ≤ 140737488355328 := by
  obtain ⟨b, off, s, e, hS, hs, hc⟩ := h.at_ hk
  have hd : ks.getD k ⟨#[]⟩ = s := by rw [List.getD_eq_getElem?_getD, hs]; rfl
  exact ⟨b, off, e, hS, by rw [hd]; exact hc, by rw [hd]; exact h.size hs⟩
theorem map_keep {w w' : World} {b n : Nat} {D : DataW Unit} (h : w.ownsMap Tryz.prog 9 (plainElem (H := Unit) Tryz.prog 3) b n D) (hk : w'.heap[b]? = w.heap[b]?) : w'.ownsMap Tryz.prog 9 (plainElem (H := Unit) Tryz.prog 3) b n D := by
  obtain ⟨es, clock, hb, F, hs, hD⟩ := h
  exact ⟨es, clock, hk.trans hb, F, hs, hD⟩
set_option maxRecDepth 100000 in
/-- What is looked up is the last place. -/
theorem look_last {w : World} {b n i k : Nat} {ks : List ByteArray} {s : ByteArray} (h : w.ownsMap Tryz.prog 9 (plainElem (H := Unit) Tryz.prog 3) b n (lastD ks k)) (hs : s.size ≤ maxLen) (hi : lastAt ks s k = some i) :
    (Instr.lookup 79 (.map (some b)) (.string s) false).run Tryz.prog w = .ok (.int .i64 (i : Int)) w := by
  obtain ⟨c, hrun, hat, _⟩ := h.lookup_int (t := 79) keyLaw Tryz.underlying79 Tryz.underlying3 (zeroI w) (Go.WideMaps.keyOf_string_mk Tryz.underlying9 hs : keyOf Tryz.prog 9 (.string s) = some (kL s))
  have hat2 : (lastD (H := Unit) ks k).atKey (kL s) (.lit (.int .i64 0)) = .lit (.int .i64 c) := hat
  rw [lastD_at, hi] at hat2
  injection hat2 with hat2
  injection hat2 with _ hat2
  rw [hrun, hat2]
theorem keys_row {w : World} {base n : Nat} {v : Value} {ks : List ByteArray} {ss : List (List UInt8)} (hp : ss.Perm (strKeys (lastD (H := Unit) ks ks.length))) (h : w.ownsRow base 9 1 v ss.length ((ss.mergeSort (fun x y => decide (x ≤ y))).map encStr)) :
    w.ownsRow base 9 1 v (keysB ks).length (strs (keysB ks)) := by
  have h1 : ss.mergeSort (fun x y => decide (x ≤ y)) = keysL ks := mergeSort_of_perm hp
  have h2 : ss.length = (keysB ks).length := by
    unfold keysB
    rw [List.length_map, ← h1, List.length_mergeSort]
  have h3 : (keysL ks).map encStr = strs (keysB ks) := by
    unfold strs keysB
    rw [List.map_map]; rfl
  rw [h1, h2, h3] at h
  exact h
theorem step_append_at {base : Nat} {e : TypeId} {i : TypeInfo} {z : Value} {size bytes n m c : Nat} {v : Value} {xs news : List Value} {ad : Addr} {w : World} {ops : Array Oper} {o : Oper} {a : Act} {K : Act → World → Prop} {Q : Exit → Act → World → Prop} {E : Prop} (hgd : o.guard = none) (s x : Operand) (t : TypeId)
    (ho : o.op = .call { callee := .builtin .append, args := #[s, x], argTypes := #[t, t] })
    (ht : Tryz.prog.underlying t = some (.slice e)) (hi : Tryz.prog.info? e = some i) (hz : i.zero = some z)
    (hsize : i.size = size) (hby : i.bytes = bytes) (hzs : z.cells.size = size) (hsz : 0 < size)
    (hs : a.eval s = v) (hown : w.ownsRow base e size v n xs)
    (hx : a.eval x = .slice (some ad) m c) (hl : news.length = m * size) (hnews : ∀ j u, news[j]? = some u → w.cell? (ad.add j) = some u) (h1 : ∀ u ∈ news, u.oneCell' = true)
    (h63 : n + m ≤ maxLen) (hbytes : (n + m) * bytes ≤ 140737488355328) (hbase : base ≤ w.heap.size)
    (h : ∀ v' w', w'.ownsRow base e size v' (n + m) (xs ++ news) → w.grownBy w' v.ownBlock → (v' = .slice none 0 0 ↔ v = .slice none 0 0 ∧ m = 0) → (v'.ownBlock = v.ownBlock ∨ v'.ownBlock = some w.heap.size) → K (a.put o.dst v') w') :
    if Region.wanted o (yielded ops a.tmps) = true then Oper.wp Tryz.prog o a w K Q else E := by
  have hw : Region.wanted o (yielded ops a.tmps) = true := by simp [Region.wanted, hgd]
  rw [if_pos hw]
  obtain ⟨v', w', hr, h2, h3, h4, h5⟩ := run_append_own_at (P := Tryz.prog) w base t o.type e i z size bytes ht hi hz hsize hby hzs hsz v n xs hown ad m c news hl hnews h1 h63 hbytes hbase
  unfold Oper.wp execOp
  simp only [ho, resolve, invoke, builtin, Sem.run_bind, Sem.run_pure, Result.andThen_ok, List.map_toArray, List.map_cons, List.map_nil, hs, hx, hr]
  exact h v' w' h2 h3 h4 h5
theorem new7 (w : World) (a0 a1 a2 a3 a4 a5 a6 : Value) (t : TypeId) : ∀ j u, [a0, a1, a2, a3, a4, a5, a6][j]? = some u → (w.alloc (.cells #[a0, a1, a2, a3, a4, a5, a6] t)).cell? ((⟨w.heap.size, 0, none⟩ : Addr).add j) = some u := by
  obtain ⟨x0, x1, x2, x3, x4, x5, x6⟩ := box7_of (World.alloc_heap_new w (.cells #[a0, a1, a2, a3, a4, a5, a6] t))
  intro j u h
  rw [Addr.add_lit, Nat.zero_add]
  match j, h with
  | 0, h => injection h with h; subst h; exact x0
  | 1, h => injection h with h; subst h; exact x1
  | 2, h => injection h with h; subst h; exact x2
  | 3, h => injection h with h; subst h; exact x3
  | 4, h => injection h with h; subst h; exact x4
  | 5, h => injection h with h; subst h; exact x5
  | 6, h => injection h with h; subst h; exact x6
/-- The cells of the first j values that are put together. -/
def flatC (cs : Nat → List Value) (ix : Nat → Nat) (j : Nat) : List Value := ((List.range j).map fun q => cs (ix q)).flatten
theorem flatC_succ (cs : Nat → List Value) (ix : Nat → Nat) (j : Nat) : flatC cs ix (j + 1) = flatC cs ix j ++ cs (ix j) := by
  unfold flatC
  rw [List.range_succ]; simp
theorem flatC_length {cs : Nat → List Value} {ix : Nat → Nat} : ∀ {j : Nat}, (∀ q, q < j → (cs (ix q)).length = 7) → (flatC cs ix j).length = j * 7
  | 0, _ => rfl
  | j + 1, h => by
    rw [flatC_succ, List.length_append, flatC_length fun q hq => h q (by omega), h j (by omega)]; omega
theorem flatC_get {cs : Nat → List Value} {ix : Nat → Nat} : ∀ {j : Nat}, (∀ q, q < j → (cs (ix q)).length = 7) → ∀ i t, i < j → t < 7 → (flatC cs ix j)[i * 7 + t]? = (cs (ix i))[t]?
  | 0, _, i, t, hi, _ => absurd hi (by omega)
  | j + 1, h, i, t, hi, ht => by
    have hl := flatC_length (cs := cs) (ix := ix) (j := j) fun q hq => h q (by omega)
    rw [flatC_succ]
    by_cases hj : i = j
    · subst hj
      rw [List.getElem?_append_right (by omega), hl, show i * 7 + t - i * 7 = t by omega]
    · rw [List.getElem?_append_left (by omega)]
      exact flatC_get (fun q hq => h q (by omega)) i t (by omega) ht

end Go.Proofs.YtpjllcengnolkaaGreatDoor

namespace Go.Proofs.YtpjllcengnolkaaGreatDoor
open Go.Lib

/-- Whether octets begin with a whole character, or with none, over numbers. -/
def fullN (n b0 b1 b2 : Nat) : Prop := b0 < 194 ∨ 244 < b0 ∨ (if b0 < 224 then 2 else if b0 < 240 then 3 else 4) ≤ n ∨ (1 < n ∧ (b1 < (if b0 = 224 then 160 else if b0 = 240 then 144 else 128) ∨ (if b0 = 237 then 159 else if b0 = 244 then 143 else 191) < b1)) ∨ (2 < n ∧ (b2 < 128 ∨ 191 < b2))
theorem sec (b0 c1 : Nat) (h : c1 < (if b0 = 224 then 160 else if b0 = 240 then 144 else 128) ∨ (if b0 = 237 then 159 else if b0 = 244 then 143 else 191) < c1) : c1 < 128 ∨ 191 < c1 ∨ (b0 = 224 ∧ c1 < 160) ∨ (b0 = 240 ∧ c1 < 144) ∨ (b0 = 237 ∧ 159 < c1) ∨ (b0 = 244 ∧ 143 < c1) := by
  rcases h with h | h
  all_goals
    split at h
    · omega
    · split at h <;> omega
set_option maxRecDepth 100000 in
set_option maxHeartbeats 8000000 in
theorem decodeN_full {n n' b0 b1 b2 b3 c1 c2 c3 : Nat} (hn : 1 ≤ n) (hnn : n ≤ n') (h1 : 1 < n → c1 = b1) (h2 : 2 < n → c2 = b2) (h3 : 3 < n → c3 = b3) (k0 : b0 < 256) (k1 : b1 < 256) (k2 : b2 < 256) (l1 : c1 < 256) (l2 : c2 < 256) (hf : fullN n b0 b1 b2) :
    decodeN n' b0 c1 c2 c3 = decodeN n b0 b1 b2 b3 := by
  unfold fullN at hf
  have hc : n = 1 ∨ n = 2 ∨ n = 3 ∨ 4 ≤ n := by omega
  rcases hc with rfl | rfl | rfl | h4
  · have hb : b0 < 194 ∨ 244 < b0 := by
      rcases hf with h | h | h | h | h
      · exact .inl h
      · exact .inr h
      · exfalso; split at h
        · omega
        · split at h <;> omega
      · omega
      · omega
    unfold decodeN
    by_cases a1 : b0 < 128
    · rw [if_pos a1, if_pos a1]
    · repeat' split
      all_goals first | rfl | (exfalso; omega)
  · obtain rfl := h1 (by omega)
    have hb : b0 < 224 ∨ 244 < b0 ∨ c1 < 128 ∨ 191 < c1 ∨ (b0 = 224 ∧ c1 < 160) ∨ (b0 = 240 ∧ c1 < 144) ∨ (b0 = 237 ∧ 159 < c1) ∨ (b0 = 244 ∧ 143 < c1) := by
      rcases hf with h | h | h | h | h
      · left; omega
      · right; left; exact h
      · left
        split at h
        · assumption
        · split at h <;> omega
      · right; right
        exact sec _ _ h.2
      · omega
    clear hf
    unfold decodeN
    repeat' split
    all_goals first | rfl | (exfalso; omega)
  · obtain rfl := h1 (by omega)
    obtain rfl := h2 (by omega)
    have hb : b0 < 240 ∨ 244 < b0 ∨ (c1 < 128 ∨ 191 < c1 ∨ (b0 = 224 ∧ c1 < 160) ∨ (b0 = 240 ∧ c1 < 144) ∨ (b0 = 237 ∧ 159 < c1) ∨ (b0 = 244 ∧ 143 < c1)) ∨ c2 < 128 ∨ 191 < c2 := by
      rcases hf with h | h | h | h | h
      · left; omega
      · right; left; exact h
      · left
        split at h
        · omega
        · split at h <;> omega
      · exact .inr (.inr (.inl (sec _ _ h.2)))
      · exact .inr (.inr (.inr h.2))
    clear hf
    unfold decodeN
    repeat' split
    all_goals first | rfl | (exfalso; omega)
  · obtain rfl := h1 (by omega)
    obtain rfl := h2 (by omega)
    obtain rfl := h3 (by omega)
    unfold decodeN
    simp only [show 1 < n by omega, show 2 < n by omega, show 3 < n by omega, show 1 < n' by omega, show 2 < n' by omega, show 3 < n' by omega, true_and]
end Go.Proofs.YtpjllcengnolkaaGreatDoor

namespace Go.Proofs.YtpjllcengnolkaaGreatDoor
open Go.Lib

theorem u8_lt (a : UInt8) (n : Nat) (h : n < 256) : (a < UInt8.ofNat n) ↔ a.toNat < n := by
  rw [UInt8.lt_iff_toNat_lt]
  simp [UInt8.toNat_ofNat, Nat.mod_eq_of_lt h]
theorem u8_gt (a : UInt8) (n : Nat) (h : n < 256) : (UInt8.ofNat n < a) ↔ n < a.toNat := by
  rw [UInt8.lt_iff_toNat_lt]
  simp [UInt8.toNat_ofNat, Nat.mod_eq_of_lt h]
theorem u8_eq (a : UInt8) (n : Nat) (h : n < 256) : (a = UInt8.ofNat n) ↔ a.toNat = n := by
  constructor
  · rintro rfl
    simp [UInt8.toNat_ofNat, Nat.mod_eq_of_lt h]
  · intro e
    apply UInt8.toNat.inj
    simp [UInt8.toNat_ofNat, Nat.mod_eq_of_lt h, e]
theorem full_N {a : UInt8} {t : List UInt8} (h : fullL (a :: t) = true) : fullN (t.length + 1) a.toNat (t.getD 0 0).toNat (t.getD 1 0).toNat := by
  unfold fullL at h
  have e194 : a < 194 ↔ a.toNat < 194 := u8_lt a 194 (by omega)
  have e244 : 244 < a ↔ 244 < a.toNat := u8_gt a 244 (by omega)
  have e224 : a < 224 ↔ a.toNat < 224 := u8_lt a 224 (by omega)
  have e240 : a < 240 ↔ a.toNat < 240 := u8_lt a 240 (by omega)
  have q224 : a = 224 ↔ a.toNat = 224 := u8_eq a 224 (by omega)
  have q240 : a = 240 ↔ a.toNat = 240 := u8_eq a 240 (by omega)
  have q237 : a = 237 ↔ a.toNat = 237 := u8_eq a 237 (by omega)
  have q244 : a = 244 ↔ a.toNat = 244 := u8_eq a 244 (by omega)
  simp only [e194, e244, e224, e240] at h
  unfold fullN
  by_cases c1 : a.toNat < 194 ∨ 244 < a.toNat
  · rcases c1 with c1 | c1
    · exact .inl c1
    · exact .inr (.inl c1)
  · rw [if_neg c1] at h
    by_cases c2 : (if a.toNat < 224 then 1 else if a.toNat < 240 then 2 else 3) ≤ t.length
    · refine .inr (.inr (.inl ?_))
      by_cases x : a.toNat < 224
      · rw [if_pos x] at c2 ⊢; omega
      · rw [if_neg x] at c2 ⊢
        by_cases y : a.toNat < 240
        · rw [if_pos y] at c2 ⊢; omega
        · rw [if_neg y] at c2 ⊢; omega
    · rw [if_neg c2] at h
      cases t with
      | nil => simp at h
      | cons c u =>
        simp only at h
        by_cases c3 : c < (if a = 224 then 160 else if a = 240 then 144 else 128) ∨ (if a = 237 then 159 else if a = 244 then 143 else 191) < c
        · refine .inr (.inr (.inr (.inl ⟨by simp, ?_⟩)))
          show c.toNat < _ ∨ _ < c.toNat
          rcases c3 with c3 | c3
          · left
            by_cases d : a = 224
            · rw [if_pos d] at c3; rw [if_pos (q224.1 d)]; exact (u8_lt c 160 (by omega)).1 c3
            · rw [if_neg d] at c3; rw [if_neg (fun e => d (q224.2 e))]
              by_cases d2 : a = 240
              · rw [if_pos d2] at c3; rw [if_pos (q240.1 d2)]; exact (u8_lt c 144 (by omega)).1 c3
              · rw [if_neg d2] at c3; rw [if_neg (fun e => d2 (q240.2 e))]; exact (u8_lt c 128 (by omega)).1 c3
          · right
            by_cases d : a = 237
            · rw [if_pos d] at c3; rw [if_pos (q237.1 d)]; exact (u8_gt c 159 (by omega)).1 c3
            · rw [if_neg d] at c3; rw [if_neg (fun e => d (q237.2 e))]
              by_cases d2 : a = 244
              · rw [if_pos d2] at c3; rw [if_pos (q244.1 d2)]; exact (u8_gt c 143 (by omega)).1 c3
              · rw [if_neg d2] at c3; rw [if_neg (fun e => d2 (q244.2 e))]; exact (u8_gt c 191 (by omega)).1 c3
        · rw [if_neg c3] at h
          cases u with
          | nil => simp at h
          | cons d v =>
            simp only [decide_eq_true_eq] at h
            refine .inr (.inr (.inr (.inr ⟨by simp, ?_⟩)))
            show d.toNat < 128 ∨ 191 < d.toNat
            rcases h with h | h
            · exact .inl ((u8_lt d 128 (by omega)).1 h)
            · exact .inr ((u8_gt d 191 (by omega)).1 h)
theorem getD_left {l : List UInt8} (r : List UInt8) {i : Nat} (h : i < l.length) : (l ++ r).getD i 0 = l.getD i 0 := by
  rw [List.getD_eq_getElem?_getD, List.getD_eq_getElem?_getD, List.getElem?_append_left h]
/-- What a whole character is, it is whatever follows. -/
theorem full_dec {l : List UInt8} (r : List UInt8) (h : fullL l = true) : decodeL (l ++ r) = decodeL l := by
  cases l with
  | nil => cases h
  | cons a t =>
    have hf := full_N h
    have k := fun (x : UInt8) => x.toNat_lt
    rw [decodeL_N, decodeL_N]
    have g0 : ((a :: t) ++ r).getD 0 0 = (a :: t).getD 0 0 := rfl
    rw [g0]
    have g1 : 1 < (a :: t).length → ((a :: t) ++ r).getD 1 0 = (a :: t).getD 1 0 := fun hl => getD_left r hl
    have g2 : 2 < (a :: t).length → ((a :: t) ++ r).getD 2 0 = (a :: t).getD 2 0 := fun hl => getD_left r hl
    have g3 : 3 < (a :: t).length → ((a :: t) ++ r).getD 3 0 = (a :: t).getD 3 0 := fun hl => getD_left r hl
    exact decodeN_full (n := (a :: t).length) (by simp) (by simp) (fun hl => by rw [g1 hl]) (fun hl => by rw [g2 hl]) (fun hl => by rw [g3 hl]) (k _) (k _) (k _) (k _) (k _) hf
theorem full_more {l : List UInt8} (r : List UInt8) (h : fullL l = true) : fullL (l ++ r) = true := by
  cases l with
  | nil => cases h
  | cons a t =>
    rw [List.cons_append]
    unfold fullL at h ⊢
    simp only at h ⊢
    by_cases c1 : a < 194 ∨ 244 < a
    · rw [if_pos c1]
    · rw [if_neg c1] at h ⊢
      by_cases c2 : (if a < 224 then 1 else if a < 240 then 2 else 3) ≤ t.length
      · rw [if_pos (by rw [List.length_append]; omega)]
      · rw [if_neg c2] at h
        by_cases c4 : (if a < 224 then 1 else if a < 240 then 2 else 3) ≤ (t ++ r).length
        · rw [if_pos c4]
        · rw [if_neg c4]
          cases t with
          | nil => simp at h
          | cons c u =>
            simp only [List.cons_append] at h ⊢
            by_cases c3 : c < (if a = 224 then 160 else if a = 240 then 144 else 128) ∨ (if a = 237 then 159 else if a = 244 then 143 else 191) < c
            · rw [if_pos c3]
            · rw [if_neg c3] at h ⊢
              cases u with
              | nil => simp at h
              | cons d v => exact h
end Go.Proofs.YtpjllcengnolkaaGreatDoor
