/-
  A row of values of the call's own that grows, one by one; its values' parts lie in old memory or in memory of the call's own.
  An append to a row of the call's own inside a fence; seven cells stored.
  Contracts of value's True, and of Get of an entry by a key that it has not.
-/
import Derived.Test.YtpmdcahomkdfmaaGreatDoorBKfl
import Derived.Test.YtpmdcahomkdfmaaGreatDoorBKff
import Derived.Test.YtpmdcahomkdfmaaGreatDoorBVob
import Derived.Test.YtpmdcahomkdfmaaGreatDoorBVsame
import Derived.Test.YtpmdcahomkdfmaaGreatDoorBUtext
import Derived.Test.YtpmdcahomkdfmaaGreatDoorBLli
import Derived.Test.YtpmdcahomkdfmaaGreatDoorBKeo
set_option linter.unusedVariables false
set_option linter.unusedSimpArgs false
namespace Go.Proofs.YtpmdcahomkdfmaaGreatDoor
open Go.RowKit Go.Lib

/-- Where a value's parts may lie, beside a row. -/
def OutE (B : Nat) (S C : Nat → Prop) (v : Value) (W : World) (b : Nat) : Prop := (S b ∨ B ≤ b) ∧ b < W.heap.size ∧ ¬ C b ∧ v.ownBlock ≠ some b
def GrowE (B : Nat) (S C : Nat → Prop) (v : Value) (l : List VT) (W : World) : Prop := ∃ cs : Nat → List Value, W.ownsRow B 28 7 v l.length (flatC cs id l.length) ∧ (∀ i, i < l.length → (cs i).length = 7) ∧
  (∀ i x, l[i]? = some x → VIn W (OutE B S C v W) x (cs i))
theorem GrowE.nil (B : Nat) (S C : Nat → Prop) (W : World) : GrowE B S C (.slice none 0 0) [] W := ⟨fun _ => [], ⟨rfl, .inl ⟨rfl, rfl⟩⟩, fun i hi => absurd hi (by simp), fun i x hx => absurd hx (by simp)⟩
theorem GrowE.keep {B : Nat} {S C : Nat → Prop} {v : Value} {l : List VT} {W W' : World} (h : GrowE B S C v l W) (hb : But C W W') (hC : ∀ k, v.ownBlock = some k → ¬ C k) : GrowE B S C v l W' := by
  obtain ⟨cs, h1, h2, h3⟩ := h
  exact ⟨cs, ownsRow_keepB h1 hb hC, h2, fun i x hx => ((h3 i x hx).keep fun p hp => hb.cell hp.2.1 hp.2.2.1).more fun b hb' => ⟨hb'.1, Nat.lt_of_lt_of_le hb'.2.1 hb.size, hb'.2.2⟩⟩
/-- It stays where a block is written that lies below the row and is none of the old ones that it reads. -/
theorem GrowE.set {B b : Nat} {S : Nat → Prop} {v : Value} {l : List VT} {W : World} (h : GrowE B S (fun _ => False) v l W) (hb : b < B) (hSb : ¬ S b) (j : Nat) (u : Value) : GrowE B S (fun _ => False) v l (W.setCell ⟨b, j, none⟩ u) := by
  obtain ⟨cs, h1, h2, h3⟩ := h
  have hne : ∀ k, k ≠ b → (W.setCell ⟨b, j, none⟩ u).heap[k]? = W.heap[k]? := fun k hk => Below.heap_setCell _ _ _ _ hk
  refine ⟨cs, ?_, h2, fun i x hx => ((h3 i x hx).keep fun p hp => World.cell?_of_block (hne _ fun e => ?_)).more fun k hk => ⟨hk.1, by simpa [World.setCell] using hk.2.1, hk.2.2⟩⟩
  · refine ⟨h1.1, ?_⟩
    rcases h1.2 with h2 | ⟨g, cap, cur, e1, e2, e3, e4⟩
    · exact .inl h2
    · exact .inr ⟨g, cap, cur, e1, e2, (hne g (by omega)).trans e3, e4⟩
  · rcases hp.1 with h | h
    · rw [e] at h; exact hSb h
    · omega
theorem flatC_snoc {cs : Nat → List Value} {a : List Value} (n : Nat) : flatC (fun i => if i < n then cs i else a) id (n + 1) = flatC cs id n ++ a := by
  rw [flatC_succ]
  have h1 : flatC (fun i => if i < n then cs i else a) id n = flatC cs id n := by
    unfold flatC
    congr 1
    refine List.map_congr_left fun q hq => ?_
    have := List.mem_range.1 hq
    simp [this]
  rw [h1]
  simp
/-- One value more. -/
theorem GrowE.push {B : Nat} {S C : Nat → Prop} {v v' : Value} {l : List VT} {n : Nat} {W W1 W2 W3 : World} {cs : Nat → List Value} {x : VT} {csx : List Value} (hn : l.length = n)
    (ho : W.ownsRow B 28 7 v n (flatC cs id n)) (h7 : ∀ i, i < n → (cs i).length = 7) (ht : ∀ i y, l[i]? = some y → VIn W (OutE B S C v W) y (cs i))
    (h1 : Below W.heap.size W W1) (hx : VIn W1 (fun b => S b ∨ (W.heap.size ≤ b ∧ b < W1.heap.size)) x csx) (hx7 : csx.length = 7) (h2 : Below W1.heap.size W1 W2)
    (hg : W2.grownBy W3 v.ownBlock) (hown : W3.ownsRow B 28 7 v' (n + 1) (flatC cs id n ++ csx)) (hat : v'.ownBlock = v.ownBlock ∨ v'.ownBlock = some W2.heap.size)
    (hBW : B ≤ W.heap.size) (hS : ∀ b, S b → b < B) (hC : ∀ b, C b → B ≤ b ∧ b < W.heap.size) : GrowE B S C v' (l ++ [x]) W3 := by
  have h12 : Below W.heap.size W W2 := h1.trans (h2.mono h1.size)
  have hvl : ∀ k, v.ownBlock = some k → B ≤ k ∧ k < W.heap.size := fun k hk => ownsRow_lt ho hk
  have hsz : W2.heap.size ≤ W3.heap.size := hg.size
  have hkeep : ∀ b, b < W2.heap.size → v.ownBlock ≠ some b → W3.heap[b]? = W2.heap[b]? := fun b hb hne => hg.block b hb (fun e => hne e.symm)
  have hnew : ∀ b, b < W2.heap.size → v.ownBlock ≠ some b → v'.ownBlock ≠ some b := fun b hb hne e => by
    rcases hat with h | h
    · exact hne (h ▸ e)
    · rw [h] at e; injection e with e; omega
  refine ⟨fun i => if i < n then cs i else csx, ?_, fun i hi => ?_, fun i y hy => ?_⟩
  · rw [List.length_append, hn]
    show W3.ownsRow B _ 7 _ (n + 1) (flatC _ id (n + 1))
    rw [flatC_snoc]; exact hown
  · by_cases h : i < n
    · simp only [h, if_true]; exact h7 i h
    · simp only [h, if_false]; exact hx7
  · by_cases h : i < n
    · simp only [h, if_true]
      have hy2 : l[i]? = some y := by rwa [List.getElem?_append_left (by omega)] at hy
      refine ((ht i y hy2).keep fun p hp => ?_).more fun b hb => ⟨hb.1, Nat.lt_of_lt_of_le hb.2.1 (Nat.le_trans h12.size hsz), hb.2.2.1, hnew b (Nat.lt_of_lt_of_le hb.2.1 h12.size) hb.2.2.2⟩
      exact (World.cell?_of_block (hkeep _ (Nat.lt_of_lt_of_le hp.2.1 h12.size) hp.2.2.2)).trans (h12.cell hp.2.1)
    · simp only [h, if_false]
      have hyx : y = x := by
        rw [List.getElem?_append_right (by omega), hn] at hy
        have h0 : i - n = 0 := by
          rcases Nat.eq_zero_or_pos (i - n) with h0 | h0
          · exact h0
          · rw [List.getElem?_eq_none (by first | (simp; done) | (simp; omega))] at hy; exact absurd hy (by simp)
        rw [h0] at hy
        injection hy with hy
        exact hy.symm
      subst hyx
      have hlt : ∀ b, (S b ∨ (W.heap.size ≤ b ∧ b < W1.heap.size)) → b < W1.heap.size := fun b hb => by
        rcases hb with h | h
        · have := hS b h; have := h1.size; omega
        · exact h.2
      have hnv : ∀ b, (S b ∨ (W.heap.size ≤ b ∧ b < W1.heap.size)) → v.ownBlock ≠ some b := fun b hb e => by
        have := hvl b e
        rcases hb with h | h
        · have := hS b h; omega
        · omega
      refine (hx.keep fun p hp => ?_).more fun b hb => ⟨?_, ?_, fun hc => ?_, ?_⟩
      · have h3 := hlt _ hp
        exact (World.cell?_of_block (hkeep _ (Nat.lt_of_lt_of_le h3 h2.size) (hnv _ hp))).trans (h2.cell h3)
      · rcases hb with h | h
        · exact .inl h
        · exact .inr (by omega)
      · have := hlt b hb; have := h2.size; omega
      · have := hC b hc
        rcases hb with h | h
        · have := hS b h; omega
        · omega
      · exact hnew b (Nat.lt_of_lt_of_le (hlt b hb) h2.size) (hnv b hb)
theorem GrowE.rdl {B : Nat} {S C : Nat → Prop} {A : Option Addr} {n c : Nat} {l : List VT} {W : World} (h : GrowE B S C (.slice A n c) l W) (hn : l.length = n) (hnn : n ≤ 140737488355328) : RdL W (fun b => (S b ∨ B ≤ b) ∧ b < W.heap.size) A n l ∧ n ≤ c := by
  obtain ⟨cs, h1, h2, h3⟩ := h
  subst hn
  rcases h1.2 with ⟨e, h0⟩ | ⟨g, cap, cur, e1, e2, e3, e4, e5, e6, e7⟩
  · injection e with e1 e2 e3
    exact ⟨⟨rfl, hnn, cs, fun h => absurd h (by omega), fun i x hx => (h3 i x hx).more fun b hb => ⟨hb.1, hb.2.1⟩⟩, by omega⟩
  · injection e1 with e8 e9 e10
    subst e8 e10
    refine ⟨⟨rfl, hnn, cs, fun h => ⟨g, 0, rfl, ⟨.inr e2, (Array.getElem?_eq_some_iff.1 e3).1⟩, fun i hi => ⟨h2 i hi, fun j hj => ?_⟩⟩, fun i x hx => (h3 i x hx).more fun b hb => ⟨hb.1, hb.2.1⟩⟩, e4⟩
    have h7 := flatC_get (cs := cs) (ix := id) (j := l.length) (fun q hq => h2 q hq) i j hi hj
    have h8 : j < (cs i).length := by rw [h2 i hi]; exact hj
    rw [show (cs (id i))[j]? = some ((cs i)[j]) from List.getElem?_eq_getElem h8] at h7
    rw [List.getElem?_eq_getElem h8, Nat.zero_add]
    exact ownsRow_cellK h1 h7
end Go.Proofs.YtpmdcahomkdfmaaGreatDoor

namespace Go.Proofs.YtpmdcahomkdfmaaGreatDoor
open Go.RowKit Go.Lib
attribute [local go_sem] Oper.semAt_some

/-- An append to a row of the call's own, inside a fence. -/
theorem wpIn_append {F : Fence} {nn base : Nat} {e : TypeId} {i : TypeInfo} {z : Value} {size bytes n m c : Nat} {v : Value} {xs news : List Value} {ad : Addr} {w : World} {o : Oper} {a : Act} {K : Act → World → Prop} {Q : Exit → Act → World → Prop} (hro : F.round = none) (s x : Operand) (t : TypeId)
    (ho : o.op = .call { callee := .builtin .append, args := #[s, x], argTypes := #[t, t] })
    (ht : Tryz.prog.underlying t = some (.slice e)) (hi : Tryz.prog.info? e = some i) (hz : i.zero = some z)
    (hsize : i.size = size) (hby : i.bytes = bytes) (hzs : z.cells.size = size) (hsz : 0 < size)
    (hs : a.eval s = v) (hown : w.ownsRow base e size v n xs)
    (hx : a.eval x = .slice (some ad) m c) (hl : news.length = m * size) (hnews : ∀ j u, news[j]? = some u → w.cell? (ad.add j) = some u) (h1 : ∀ u ∈ news, u.oneCell' = true)
    (h63 : n + m ≤ maxLen) (hbytes : (n + m) * bytes ≤ 140737488355328) (hbase : base ≤ w.heap.size)
    (h : ∀ v' w', w'.ownsRow base e size v' (n + m) (xs ++ news) → w.grownBy w' v.ownBlock → (v' = .slice none 0 0 ↔ v = .slice none 0 0 ∧ m = 0) → (v'.ownBlock = v.ownBlock ∨ v'.ownBlock = some w.heap.size) → K (a.put o.dst v') w') :
    Oper.wpIn F nn Tryz.prog o a w K Q := by
  obtain ⟨v', w', hr, h2, h3, h4, h5⟩ := run_append_own_at (P := Tryz.prog) w base t o.type e i z size bytes ht hi hz hsize hby hzs hsz v n xs hown ad m c news hl hnews h1 h63 hbytes hbase
  unfold Oper.wpIn
  refine ⟨fun f hf => ?_, ?_⟩
  · simp [Oper.about, ho, resolve, Target.leads, go_sem, Sem.run_bind, Sem.run_pure] at hf
  · rw [hro, Oper.semAt_none]
    unfold execOp
    simp only [ho, resolve, invoke, builtin, Sem.run_bind, Sem.run_pure, Result.andThen_ok, List.map_toArray, List.map_cons, List.map_nil, hs, hx, hr]
    exact h v' w' h2 h3 h4 h5
theorem heap_seven {w : World} {b : Nat} {a0 a1 a2 a3 a4 a5 a6 : Value} {t : TypeId} (h : w.heap[b]? = some (.cells #[a0, a1, a2, a3, a4, a5, a6] t)) (v0 v1 v2 v3 v4 v5 v6 : Value) :
    (((((((w.setCell ⟨b, 0, none⟩ v0).setCell ⟨b, 1, none⟩ v1).setCell ⟨b, 2, none⟩ v2).setCell ⟨b, 3, none⟩ v3).setCell ⟨b, 4, none⟩ v4).setCell ⟨b, 5, none⟩ v5).setCell ⟨b, 6, none⟩ v6).heap[b]? = some (.cells #[v0, v1, v2, v3, v4, v5, v6] t) := by
  have h7 := setCell_box (j := 6) (setCell_box (j := 5) (setCell_box (j := 4) (setCell_box (j := 3) (setCell_box (j := 2) (setCell_box (j := 1) (setCell_box (j := 0) h v0) v1) v2) v3) v4) v5) v6
  simpa using h7
theorem heap_seven_ne {w : World} {b k : Nat} (h : k ≠ b) (v0 v1 v2 v3 v4 v5 v6 : Value) :
    (((((((w.setCell ⟨b, 0, none⟩ v0).setCell ⟨b, 1, none⟩ v1).setCell ⟨b, 2, none⟩ v2).setCell ⟨b, 3, none⟩ v3).setCell ⟨b, 4, none⟩ v4).setCell ⟨b, 5, none⟩ v5).setCell ⟨b, 6, none⟩ v6).heap[k]? = w.heap[k]? :=
  (Below.heap_setCell _ _ _ _ h).trans ((Below.heap_setCell _ _ _ _ h).trans ((Below.heap_setCell _ _ _ _ h).trans ((Below.heap_setCell _ _ _ _ h).trans ((Below.heap_setCell _ _ _ _ h).trans ((Below.heap_setCell _ _ _ _ h).trans (Below.heap_setCell _ _ _ _ h))))))
end Go.Proofs.YtpmdcahomkdfmaaGreatDoor

namespace Go.Proofs.YtpmdcahomkdfmaaGreatDoor
open Go.RowKit Go.Lib

/-- Whether a value counts as true. -/
def trueB (k : Int) : Bool := k != 0 && k != 1
set_option maxRecDepth 1000000 in
set_option maxHeartbeats 2000000 in
theorem true_c {k e : Int} {neg : Bool} {A LA KA : Option Addr} {n c ln lc kn kc : Nat} {t : ByteArray} (w : World) :
    Calls Tryz.prog 39 #[.agg #[.int .i64 k, .bool neg, .slice A n c, .int .i64 e, .string t, .slice LA ln lc, .slice KA kn kc]] w fun e w' => e = .returned (.bool (trueB k)) ∧ Below w.heap.size w w' := by
  have h0 := World.alloc_heap_new w (.cells #[.int .i64 k, .bool neg, .slice A n c, .int .i64 e, .string t, .slice LA ln lc, .slice KA kn kc] 28)
  have c0 : (w.alloc (.cells #[.int .i64 k, .bool neg, .slice A n c, .int .i64 e, .string t, .slice LA ln lc, .slice KA kn kc] 28)).cell? ⟨w.heap.size, 0, none⟩ = some (.int .i64 k) := cell_at3 h0 rfl
  have hb : Below w.heap.size w (w.alloc (.cells #[.int .i64 k, .bool neg, .slice A n c, .int .i64 e, .string t, .slice LA ln lc, .slice KA kn kc] 28)) := (Below.refl _ w).alloc (Nat.le_refl _) _
  have HB := Lib.hid hb
  clear hb h0
  by_cases k0 : k = 0
  · subst k0
    go_enter Tryz.func39, Tryz.ntmps39
    go_wp2_with fail
    go_ret
    exact ⟨rfl, HB.out⟩
  · have hk0 : (k == 0) = false := by simpa using k0
    by_cases k1 : k = 1
    · subst k1
      go_enter Tryz.func39, Tryz.ntmps39
      go_wp2_with fail
      go_ret
      exact ⟨rfl, HB.out⟩
    · have hk1 : (k == 1) = false := by simpa using k1
      go_enter Tryz.func39, Tryz.ntmps39
      go_wp2_with fail
      go_ret
      exact ⟨rfl, HB.out⟩
set_option maxRecDepth 100000 in
set_option maxHeartbeats 1000000 in
theorem indexNo_c {S : Nat → Prop} {A : Option Addr} {n c : Nat} {ks : List ByteArray} {s : ByteArray} (w : World) (h : RdT w S A n ks) (hn : n ≤ 8796093022208) (hno : ∀ t ∈ ks, t ≠ s) :
    Calls Tryz.prog 60 #[.slice A n c, .string s] w fun e w' => e = .returned (.int .i64 (-1)) ∧ w = w' := by
  have hkl := h.1
  have HNO := Lib.hid hno
  clear hno
  go_enter Tryz.func60, Tryz.ntmps60
  go_upto_region 2 with fail
  go_loopw [8] (fun v wr => ∃ k : Nat, k ≤ n ∧ v = .int .i64 (k : Int) ∧ wr = w) (fun v _ => n - (RowKit.intOf v).toNat)
  case atStart => exact ⟨0, Nat.zero_le _, rfl, rfl⟩
  case round =>
    obtain ⟨k, hki, rfl, rfl⟩ := hrel
    by_cases hlt : k < n
    · obtain ⟨b, off, t, rfl, _, ht, hc⟩ := h.at_ hlt
      have hlt2 : (k : Int) < (n : Int) := by omega
      have hk0 : (0 : Int) ≤ (k : Int) := by omega
      have hkt : ((k : Int)).toNat = k := by omega
      have hkw : IntKind.i64.wrap ((k : Int) + 1) = (k : Int) + 1 := IntWalk.i64_in _ (by omega)
      have hne : s ≠ t := fun e => HNO.out t (List.mem_of_getElem? ht) e.symm
      have hq : (s.toList == t.toList) = false := by rw [ba_beq, decide_eq_false hne]
      clear hne ht
      go_wp2_with fail
      go_roundw
      case rel => exact ⟨k + 1, by omega, by go_num, by first | rfl | trivial⟩
      case measure => first | (simp [RowKit.intOf]; omega) | (show _ - _ < _ - _; simp only [RowKit.intOf]; omega)
    · have hlt2 : ¬ (k : Int) < (n : Int) := by omega
      go_wp2_with fail
      go_ret
      first | exact ⟨rfl, rfl⟩ | exact ⟨rfl, trivial⟩
/-- Get of an object by a key that it has not. -/
theorem vin_kindK {w : World} {S : Nat → Prop} {x : VT} {cs : List Value} (h : VIn w S x cs) : ∃ neg A n c e t LA ln lc KA kn kc, cs = [.int .i64 x.kind, .bool neg, .slice A n c, .int .i64 e, .string t, .slice LA ln lc, .slice KA kn kc] ∧ RdL w S LA ln x.list ∧ RdT w S KA kn x.keys ∧ kn ≤ 8796093022208 := by
  obtain ⟨k, neg, xs, e, t, li, ks, rfl⟩ : ∃ k neg xs e t li ks, x = VT.mk k neg xs e t li ks := by cases x; exact ⟨_, _, _, _, _, _, _, rfl⟩
  obtain ⟨A, n, c, LA, ln, lc, KA, kn, kc, rfl, -, -, -, h1, h2, -, -⟩ := h.parts
  obtain ⟨-, bk, -⟩ := h.bounds
  exact ⟨neg, A, n, c, e, t, LA, ln, lc, KA, kn, kc, rfl, h1, h2, bk⟩
set_option maxRecDepth 1000000 in
set_option maxHeartbeats 4000000 in
theorem getNo_c {S : Nat → Prop} {x : VT} {cs : List Value} {s : ByteArray} (w : World) (hx : VIn w S x cs) (hS : ∀ b, S b → b < w.heap.size) (hk : x.kind = 6) (hno : ∀ t ∈ x.keys, t ≠ s) :
    Calls Tryz.prog 38 #[.agg cs.toArray, .string s] w fun e w' => e = .returned (.tuple #[.agg #[.int .i64 0, .bool false, .slice none 0 0, .int .i64 0, .string ⟨#[]⟩, .slice none 0 0, .slice none 0 0], .bool false]) ∧ Below w.heap.size w w' := by
  obtain ⟨neg, A, n, c, e, t, LA, ln, lc, KA, kn, kc, rfl, hli, hks, bk⟩ := vin_kindK hx
  rw [hk]
  obtain ⟨b0, hb0⟩ : ∃ b, w.heap.size = b := ⟨_, rfl⟩
  obtain ⟨wa, hwa⟩ : ∃ y, w.alloc (.cells #[.int .i64 6, .bool neg, .slice A n c, .int .i64 e, .string t, .slice LA ln lc, .slice KA kn kc] 28) = y := ⟨_, rfl⟩
  have ga : Below b0 w wa := by rw [← hwa]; exact (Below.refl _ w).alloc (by omega) _
  have sa : wa.heap.size = b0 + 1 := by rw [← hwa, World.size_alloc, hb0]
  have na : wa.heap[b0]? = some (.cells #[.int .i64 6, .bool neg, .slice A n c, .int .i64 e, .string t, .slice LA ln lc, .slice KA kn kc] 28) := by rw [← hwa, ← hb0]; exact World.alloc_heap_new w _
  obtain ⟨W0, hW0⟩ : ∃ y, wa.alloc (.cells #[.int .i64 0, .bool false, .slice none 0 0, .int .i64 0, .string ⟨#[]⟩, .slice none 0 0, .slice none 0 0] 28) = y := ⟨_, rfl⟩
  have gb : Below (b0 + 1) wa W0 := by rw [← hW0]; exact (Below.refl _ wa).alloc (by omega) _
  have sb : W0.heap.size = b0 + 2 := by rw [← hW0, World.size_alloc, sa]
  have nb : W0.heap[b0 + 1]? = some (.cells #[.int .i64 0, .bool false, .slice none 0 0, .int .i64 0, .string ⟨#[]⟩, .slice none 0 0, .slice none 0 0] 28) := by rw [← hW0, ← sa]; exact World.alloc_heap_new wa _
  have n0 := (gb.block b0 (by omega)).trans na
  obtain ⟨x0, x1, x2, x3, x4, x5, x6⟩ := box7_of n0
  obtain ⟨z0, z1, z2, z3, z4, z5, z6⟩ := box7_of nb
  have fz : ∀ j, W0.frozen? ⟨b0 + 1, j, none⟩ = false := fun j => frozen_of_row _ _ j _ _ nb
  have hb02 : Below b0 w W0 := ga.trans (gb.mono (by omega))
  have HI := indexNo_c (c := kc) W0 (hks.keep fun p hp => hb02.cell (by have := hS _ hp; omega)) bk hno
  have HIX := Lib.hid HI
  have HB := Lib.hid hb02
  rw [hb0]
  clear hx hli hks hS hno HI ga gb na nb n0 hb02
  go_enter Tryz.func38, Tryz.ntmps38
  go_upto_region 1 with fail
  try rw [hb0]
  clear hb0
  try rw [hwa]
  try rw [hW0]
  clear hwa hW0
  go_wp2_with (refine HIX.out.mono ?_; rintro e9 w9 ⟨rfl, rfl⟩)
  refine bodyPost_ret (v := .tuple #[.agg #[.int .i64 0, .bool false, .slice none 0 0, .int .i64 0, .string ⟨#[]⟩, .slice none 0 0, .slice none 0 0], .bool false]) (by simp [results, Tryz.results38, go_sem, z0, z1, z2, z3, z4, z5, z6]) rfl ?_
  exact ⟨rfl, below_seven HB.out (by omega) _ _ _ _ _ _ _⟩
end Go.Proofs.YtpmdcahomkdfmaaGreatDoor
