/-
  The reader reads as the page has it: the contracts of value, Next and Read without a hypothesis.
  Contract of reader.All.
  The law's example of the reader. Over what Word tells of 2.5 (Word25: from RWord_c of dec's Drword).
-/
import Derived.Test.YtpjllcengnolkaaGreatDoorHLobj
import Derived.Test.YtpjllcengnolkaaGreatDoorHLcu
import Derived.Test.YtpjllcengnolkaaGreatDoorHLrd
import Derived.Lib.SlBytesConst
set_option linter.unusedVariables false
set_option linter.unusedSimpArgs false
namespace Go.Proofs.YtpjllcengnolkaaGreatDoor
open Go.RowKit Go.Lib
theorem objC_of {k : Nat} (ih : ValC k) : ObjC k := fun E hko hcap hpl => robject_c ih E hko hcap hpl
theorem valC (k : Nat) : ValC k := val_all (fun _ ih => objC_of ih) k
end Go.Proofs.YtpjllcengnolkaaGreatDoor

namespace Go.Proofs.YtpjllcengnolkaaGreatDoor
open Go.RowKit Go.Lib
variable {L : List UInt8} {A : Option Addr} {c : Nat}

/-- What Next tells, of too many octets, too. -/
def nextR (b : List UInt8) (p : Nat) : RR (Option VT) := if 65536 < b.length then .bad 0 5 else rNext mkObj b p
def rAllG (b : List UInt8) : Nat → List VT → Nat → List VT × Nat × Nat
  | 0, l, p => (l, p, 3)
  | n + 1, l, p => match nextR b p with
    | .bad q e => (l, q, e)
    | .ok none _ => (l, b.length, 0)
    | .ok (some v) q => if l.length = 4096 then (l, wsE b p, 3) else rAllG b n (l ++ [v]) q
theorem rAll_G (b : List UInt8) : rAll mkObj b = rAllG b 5000 [] 0 := by
  unfold rAll
  by_cases h : 65536 < b.length
  · rw [if_pos h]
    unfold rAllG nextR
    rw [if_pos h]
  · rw [if_neg h]
    have key : ∀ n l p, rAllF mkObj b n l p = rAllG b n l p := by
      intro n
      induction n with
      | zero => intro l p; rfl
      | succ n ih =>
        intro l p
        unfold rAllF rAllG nextR
        rw [if_neg h]
        cases rNext mkObj b p with
        | bad q e => rfl
        | ok o q =>
          cases o with
          | none => rfl
          | some v =>
            show (if l.length = 4096 then _ else rAllF mkObj b n (l ++ [v]) q) = (if l.length = 4096 then _ else rAllG b n (l ++ [v]) q)
            rw [ih]; rfl
    exact key _ _ _
/-- What Next comes to. -/
def PoY (L : List UInt8) (N : Nat) (p : Nat) (e : Ending) (w' : World) : Prop :=
  match nextR L p with
  | .ok none _ => e = .returned (.tuple #[zv, .int .i64 0, .bool false, .int .i64 0])
  | .ok (some v) q => ∃ k neg A1 n1 c1 ex t LA ln lc KA kn kc, e = .returned (.tuple #[.agg #[.int .i64 k, .bool neg, .slice A1 n1 c1, .int .i64 ex, .string t, .slice LA ln lc, .slice KA kn kc], .int .i64 (q : Int), .bool true, .int .i64 0]) ∧
    VIn w' (fun b => N ≤ b ∧ b < w'.heap.size) v [.int .i64 k, .bool neg, .slice A1 n1 c1, .int .i64 ex, .string t, .slice LA ln lc, .slice KA kn kc] ∧ q ≤ L.length ∧ L.length ≤ 65536
  | .bad q x => e = .returned (.tuple #[zv, .int .i64 (q : Int), .bool false, .int .i64 (x : Int)]) ∧ x ≠ 0
theorem PoX.y {N p : Nat} {e : Ending} {w' : World} (h : PoX L N p e w') : PoY L N p e w' := by
  unfold PoX at h
  unfold PoY nextR
  by_cases hl : 65536 < L.length
  · rw [if_pos hl] at h ⊢
    exact ⟨h, by decide⟩
  · rw [if_neg hl] at h ⊢
    cases hr : rNext mkObj L p with
    | bad q x => rw [hr] at h; exact h
    | ok o q =>
      rw [hr] at h
      cases o with
      | none => exact h
      | some v =>
        obtain ⟨cs, rfl, hv, hq⟩ := h
        cases v with
        | mk k neg xs ex t l ks =>
          obtain ⟨A1, n1, c1, LA1, ln1, lc1, KA1, kn1, kc1, rfl, -⟩ := hv.parts
          exact ⟨k, neg, A1, n1, c1, ex, t, LA1, ln1, lc1, KA1, kn1, kc1, rfl, hv, hq, by omega⟩
theorem Grow.row {N : Nat} {l : List VT} {W : World} {LA : Option Addr} {n lc : Nat} (h : Grow N (.slice LA n lc) l W) (hn : n = l.length) (hs : n ≤ 1256584717458) : RdL W (fun b => N ≤ b ∧ b < W.heap.size) LA n l ∧ n ≤ lc := by
  obtain ⟨A', n', c', LA', ln', lc', KA', kn', kc', he, _, _, _, h1, _, _, h2⟩ := (h.rdl (k := 0) (e := 0) hn hs).parts
  simp only [List.cons.injEq, Value.slice.injEq] at he
  obtain ⟨-, -, -, -, -, ⟨rfl, rfl, rfl⟩, -⟩ := he
  exact ⟨h1, h2⟩
def lenV : Value → Nat
  | .slice _ n _ => n
  | _ => 0
/-- What All comes to. -/
def PoA (L : List UInt8) (N : Nat) (e : Ending) (w' : World) : Prop := ∃ (LA : Option Addr) (lc : Nat), e = .returned (.tuple #[.slice LA (rAll mkObj L).1.length lc, .int .i64 ((rAll mkObj L).2.1 : Int), .int .i64 ((rAll mkObj L).2.2 : Int)]) ∧
  RdL w' (fun b => N ≤ b ∧ b < w'.heap.size) LA (rAll mkObj L).1.length (rAll mkObj L).1 ∧ (rAll mkObj L).1.length ≤ lc ∧ (rAll mkObj L).1.length ≤ 4096

set_option maxRecDepth 100000 in
set_option maxHeartbeats 4000000 in
theorem All_c {w : World} (ho : Oct w.heap.size L A w) (hT : Tabs w) (hcap : L.length ≤ c) (hlen : L.length ≤ 140737488355328) :
    Calls Tryz.prog 8 #[.slice A L.length c] w fun e w' => PoA L w.heap.size e w' ∧ Below w.heap.size w w' := by
  obtain ⟨i7, hi7, hp7, hq7, hr7⟩ := info_parts infoV7
  obtain ⟨N, hN⟩ : ∃ N, w.heap.size = N := ⟨_, rfl⟩
  obtain ⟨R, hR⟩ : ∃ R, rAll mkObj L = R := ⟨_, rfl⟩
  have hfin : ∀ (l : List VT) (q x ln : Nat) (LA : Option Addr) (lc : Nat) (w' : World), R = (l, q, x) → l.length = ln → Grow N (.slice LA ln lc) l w' → ln ≤ 4096 → Below N w w' → PoA L N (.returned (.tuple #[.slice LA ln lc, .int .i64 (q : Int), .int .i64 (x : Int)])) w' ∧ Below N w w' := by
    intro l q x ln LA lc w' h1 h2 h3 h4 h5
    subst h2
    obtain ⟨h6, h7⟩ := h3.row rfl (by omega)
    refine ⟨⟨LA, lc, ?_, ?_, ?_, ?_⟩, h5⟩ <;> rw [hR, h1] <;> first | rfl | exact h6 | exact h7 | exact h4
  have HFIN := Lib.hid hfin
  have HS0 := Lib.hid (show rAllG L 5000 [] 0 = R from by rw [← rAll_G]; exact hR)
  have HO := Lib.hid (show ∀ W, Below N w W → Oct W.heap.size L A W from fun W hW k x hk => by
    obtain ⟨g, off, e1, e2, e3⟩ := ho k x hk
    exact ⟨g, off, e1, by have := hW.size; omega, (hW.cell (p := ⟨g, off + k, none⟩) (by show g < _; omega)).trans e3⟩)
  have hT0 := hT.lt0
  have HT := Lib.hid (show ∀ W, Below N w W → Tabs W from fun W hW => hT.below (hN ▸ hW))
  have HN := Lib.hid hN
  have HN0 := Lib.hid (show 0 < N from by have := hT0; omega)
  rw [hN]
  clear hfin ho hT hT0 hR hN
  go_enter Tryz.func8, Tryz.ntmps8
  go_wp2
  go_loopw [5, 6] (fun ov av wr => ∃ (l : List VT) (p ln lc : Nat) (LA : Option Addr), ov = .slice LA ln lc ∧ av = .int .i64 (p : Int) ∧ p ≤ L.length ∧ ln ≤ 4096 ∧ Hid (l.length = ln) ∧ Hid (Grow N (.slice LA ln lc) l wr) ∧ Hid (Below N w wr) ∧ Hid (rAllG L (5000 - ln) l p = R)) (fun ov _ _ => 5000 - lenV ov)
  case atStart => exact ⟨[], 0, 0, 0, none, rfl, rfl, Nat.zero_le _, Nat.zero_le _, rfl, Grow.nil _ _, Below.refl _ _, HS0.out⟩
  case round =>
    obtain ⟨l, p, ln, lc, LA, rfl, rfl, hp, hln4, hll, hg, hbel, hsp⟩ := hrel
    have hnx := Next_c (c := c) (valC 64) (w := wr) (p := p) (HO.out wr hbel.out) (HT.out wr hbel.out) hcap hlen hp
    have HNX := Lib.hid hnx
    clear hnx
    go_wp2_with fail
    refine HNX.out.mono ?_
    rintro e w2 ⟨hpx, hb2⟩
    have hpy := hpx.y
    clear hpx HNX
    obtain ⟨m, hm⟩ : ∃ m, 5000 - ln = m + 1 := ⟨4999 - ln, by omega⟩
    have hsp' := hsp.out
    rw [hm] at hsp'
    unfold rAllG at hsp'
    unfold PoY at hpy
    have HB2 := Lib.hid hb2
    have HBEL := Lib.hid hbel.out
    have HG := Lib.hid hg.out
    have HLL := Lib.hid hll.out
    have hNw : N ≤ wr.heap.size := by have := hbel.out.size; have := HN.out; omega
    have HNW := Lib.hid hNw
    clear hb2 hbel hg hll hsp hNw
    cases hn : nextR L p with
    | bad q x =>
      rw [hn] at hpy hsp'
      obtain ⟨rfl, hx0⟩ := hpy
      have hx1 : ¬ (x : Int) = 0 := by omega
      have hx2 : ((x : Int) == 0) = false := by simpa using hx1
      have HB3 := Lib.hid ((HBEL.out.trans (HB2.out.mono HNW.out)).alloc (by have := HB2.out.size; have := HNW.out; omega) (.cells #[.int .i64 0, .bool false, .slice none 0 0, .int .i64 0, .string ⟨#[]⟩, .slice none 0 0, .slice none 0 0] 34))
      have hgr := HG.out.keep (C := fun _ => False) ((But.of HB2.out).alloc (.cells #[.int .i64 0, .bool false, .slice none 0 0, .int .i64 0, .string ⟨#[]⟩, .slice none 0 0, .slice none 0 0] 34)) (fun k h => h.elim)
      have HGR := Lib.hid hgr
      have HSP := Lib.hid hsp'
      clear hgr hsp' hn hx0
      go_wp2_with fail
      refine bodyPost_ret (v := .tuple #[.slice LA ln lc, .int .i64 (q : Int), .int .i64 (x : Int)]) (by simp [results, Tryz.results8, go_sem]) rfl ?_
      exact HFIN.out l q x ln LA lc _ HSP.out.symm HLL.out HGR.out hln4 HB3.out
    | ok o q =>
      cases o with
      | none =>
        rw [hn] at hpy hsp'
        have hpy : e = _ := hpy
        subst hpy
        have HB3 := Lib.hid ((HBEL.out.trans (HB2.out.mono HNW.out)).alloc (by have := HB2.out.size; have := HNW.out; omega) (.cells #[.int .i64 0, .bool false, .slice none 0 0, .int .i64 0, .string ⟨#[]⟩, .slice none 0 0, .slice none 0 0] 34))
        have hgr := HG.out.keep (C := fun _ => False) ((But.of HB2.out).alloc (.cells #[.int .i64 0, .bool false, .slice none 0 0, .int .i64 0, .string ⟨#[]⟩, .slice none 0 0, .slice none 0 0] 34)) (fun k h => h.elim)
        have HGR := Lib.hid hgr
        have HSP := Lib.hid (show (l, L.length, 0) = R from hsp')
        clear hgr hsp' hn
        go_wp2_with fail
        refine bodyPost_ret (v := .tuple #[.slice LA ln lc, .int .i64 ((L.length : Nat) : Int), .int .i64 ((0 : Nat) : Int)]) (by simp [results, Tryz.results8, go_sem]) rfl ?_
        exact HFIN.out l L.length 0 ln LA lc _ HSP.out.symm HLL.out HGR.out hln4 HB3.out
      | some v =>
        rw [hn] at hpy hsp'
        have hsp' : (if l.length = 4096 then (l, wsE L p, 3) else rAllG L m (l ++ [v]) q) = R := hsp'
        obtain ⟨k, neg, A1, n1, c1, ex, t, LA1, ln1, lc1, KA, kn, kc, rfl, hvi, hql, hl6⟩ := hpy
        have HB3 := Lib.hid ((HBEL.out.trans (HB2.out.mono HNW.out)).alloc (by have := HB2.out.size; have := HNW.out; omega) (.cells #[.int .i64 k, .bool neg, .slice A1 n1 c1, .int .i64 ex, .string t, .slice LA1 ln1 lc1, .slice KA kn kc] 34))
        have hbx := World.alloc_heap_new w2 (.cells #[.int .i64 k, .bool neg, .slice A1 n1 c1, .int .i64 ex, .string t, .slice LA1 ln1 lc1, .slice KA kn kc] 34)
        have H23 := Lib.hid ((Below.refl w2.heap.size w2).alloc (Nat.le_refl _) (.cells #[.int .i64 k, .bool neg, .slice A1 n1 c1, .int .i64 ex, .string t, .slice LA1 ln1 lc1, .slice KA kn kc] 34))
        have hgr := HG.out.keep (C := fun _ => False) ((But.of HB2.out).alloc (.cells #[.int .i64 k, .bool neg, .slice A1 n1 c1, .int .i64 ex, .string t, .slice LA1 ln1 lc1, .slice KA kn kc] 34)) (fun k h => h.elim)
        have HGR := Lib.hid hgr
        have hs3 : (w2.alloc (.cells #[.int .i64 k, .bool neg, .slice A1 n1 c1, .int .i64 ex, .string t, .slice LA1 ln1 lc1, .slice KA kn kc] 34)).heap.size = w2.heap.size + 1 := by simp
        have HS3 := Lib.hid hs3
        obtain ⟨t0, t1, t2, t3, t4, t5, t6⟩ := box7_of hbx
        have HVI := Lib.hid hvi
        clear hgr hn hs3 hbx hvi
        by_cases h96 : ln = 4096
        · rw [if_pos (by rw [HLL.out]; exact h96)] at hsp'
          have HSP := Lib.hid hsp'
          have h96i : (ln : Int) = 4096 := by omega
          have hspc := fun V (hV : Below N w V) => Space_c (c := c) (w := V) (B := V.heap.size) (p := p) (HO.out V hV) hl6 hp
          obtain ⟨F, hF⟩ : ∃ F, wsE L p = F := ⟨_, rfl⟩
          rw [hF] at hspc hsp'
          have HSC := Lib.hid hspc
          have HSP := Lib.hid hsp'
          clear hspc hsp' t0 t1 t2 t3 t4 t5 t6 hF h96
          go_wp2_with fail
          generalize (w2.alloc (.cells #[.int .i64 k, .bool neg, .slice A1 n1 c1, .int .i64 ex, .string t, .slice LA1 ln1 lc1, .slice KA kn kc] 34)) = w3 at *
          refine (HSC.out w3 HB3.out).mono ?_
          rintro e' w4 ⟨rfl, rfl⟩
          go_wp2_with fail
          refine bodyPost_ret (v := .tuple #[.slice LA ln lc, .int .i64 (F : Int), .int .i64 ((3 : Nat) : Int)]) (by simp [results, Tryz.results8, go_sem]) rfl ?_
          exact HFIN.out l F 3 ln LA lc _ HSP.out.symm HLL.out HGR.out hln4 HB3.out
        · rw [if_neg (by rw [HLL.out]; exact h96)] at hsp'
          have h96i : ¬ (ln : Int) = 4096 := by omega
          have h96b : ((ln : Int) == 4096) = false := by simpa using h96i
          have HSP := Lib.hid hsp'
          clear hsp'
          go_upto_region 10 with fail
          generalize (w2.alloc (.cells #[.int .i64 k, .bool neg, .slice A1 n1 c1, .int .i64 ex, .string t, .slice LA1 ln1 lc1, .slice KA kn kc] 34)) = w3 at *
          have hgr4 := HGR.out.keep (C := fun _ => False) ((But.refl _ w3).alloc (.cells #[.int .i64 k, .bool neg, .slice A1 n1 c1, .int .i64 ex, .string t, .slice LA1 ln1 lc1, .slice KA kn kc] 34)) (fun k h => h.elim)
          obtain ⟨fs, hown, hf7, hft⟩ := hgr4
          rw [HLL.out] at hown hf7
          have hvl : ∀ k, (Value.slice LA ln lc).ownBlock = some k → k < wr.heap.size := fun k hk => by
            obtain ⟨fs', hown', -⟩ := HG.out
            rw [HLL.out] at hown'
            exact (ownsRow_lt hown' hk).2
          have HVL := Lib.hid hvl
          have HOWN := Lib.hid hown
          have HF7 := Lib.hid hf7
          have HFT := Lib.hid hft
          have HONE := Lib.hid (show ∀ u ∈ ([.int .i64 k, .bool neg, .slice A1 n1 c1, .int .i64 ex, .string t, .slice LA1 ln1 lc1, .slice KA kn kc] : List Value), u.oneCell' = true from by simp [Value.oneCell'])
          have H24 := Lib.hid (show Below w2.heap.size w2 (w3.alloc (.cells #[.int .i64 k, .bool neg, .slice A1 n1 c1, .int .i64 ex, .string t, .slice LA1 ln1 lc1, .slice KA kn kc] 34)) from H23.out.alloc (by have := HS3.out; omega) (.cells #[.int .i64 k, .bool neg, .slice A1 n1 c1, .int .i64 ex, .string t, .slice LA1 ln1 lc1, .slice KA kn kc] 34))
          have hb04 := HB3.out.alloc (by have := HS3.out; have := HB2.out.size; have := HNW.out; omega) (.cells #[.int .i64 k, .bool neg, .slice A1 n1 c1, .int .i64 ex, .string t, .slice LA1 ln1 lc1, .slice KA kn kc] 34)
          have HB04 := Lib.hid hb04
          have HN4 := Lib.hid (show N ≤ (w3.alloc (.cells #[.int .i64 k, .bool neg, .slice A1 n1 c1, .int .i64 ex, .string t, .slice LA1 ln1 lc1, .slice KA kn kc] 34)).heap.size from by rw [World.size_alloc]; have := HS3.out; have := HB2.out.size; have := HNW.out; omega)
          have HZ := Lib.hid (new7 w3 (.int .i64 k) (.bool neg) (.slice A1 n1 c1) (.int .i64 ex) (.string t) (.slice LA1 ln1 lc1) (.slice KA kn kc) 34)
          have hln63 : ln < 4096 := by omega
          clear hown hf7 hft hvl hb04 h96i h96b h96
          go_wp2_with (at_builtin; refine wpList_append_own_at _ rfl (.tmp 39) (.tmp 41) _ rfl N 34 i7 (.agg #[.int .i64 0, .bool false, .slice none 0 0, .int .i64 0, .string ⟨#[]⟩, .slice none 0 0, .slice none 0 0]) 7 112 Tryz.underlying24 hi7 hp7 hq7 hr7 rfl (by decide) (.slice LA ln lc) ln (flatC fs id ln) rfl HOWN.out ⟨w3.heap.size, 0, none⟩ 1 1 [.int .i64 k, .bool neg, .slice A1 n1 c1, .int .i64 ex, .string t, .slice LA1 ln1 lc1, .slice KA kn kc] rfl rfl HZ.out HONE.out (by unfold maxLen; omega) (by omega) HN4.out ?_; intro v' w5 hown5 hg5 _ hat5; obtain ⟨g', cap', rfl⟩ := ownsRow_succ hown5; have HOWN5 := Lib.hid hown5; have HG5 := Lib.hid hg5; have HAT5 := Lib.hid hat5; clear hown5 hg5 hat5)
          go_roundw
          case rel =>
            refine ⟨l ++ [v], q, ln + 1, cap', some ⟨g', 0, none⟩, rfl, rfl, hql, by omega, ?_, ?_, ?_, ?_⟩
            · show _ = _; rw [List.length_append, HLL.out]; rfl
            · exact Grow.push (M := wr.heap.size) (ob := 0) HLL.out HF7.out HFT.out HVL.out HNW.out H24.out HVI.out rfl HG5.out HAT5.out (But.refl _ _) (by have := HN0.out; omega) HOWN5.out
            · exact HB04.out.grown HG5.out HN4.out (fun k hk => (ownsRow_lt HOWN.out hk).1)
            · show _ = _; rw [show 5000 - (ln + 1) = m by omega]; exact HSP.out
          case measure => simp [lenV]; omega
end Go.Proofs.YtpjllcengnolkaaGreatDoor

namespace Go.Proofs.YtpjllcengnolkaaGreatDoor
open Go.RowKit Go.Lib
/-- What the reference's Word tells of 2.5. -/
def Word25 : Prop := ∀ (S : Nat → Prop) (c : Nat) (A : Option Addr) (w : World), Rd w S A 1 [25] → (∀ b, S b → b < w.heap.size) →
  Calls Tryz.prog 16 #[.agg #[.bool false, .slice A 1 c, .int .i64 (-1)]] w fun e w' => e = .returned (.string ⟨#[50, 46, 53]⟩) ∧ Below w.heap.size w w'
theorem lnum7_c (z : Int) (w : World) : Calls Tryz.prog 10 #[.int .i64 z] w fun e w' => e = .returned (.int .i64 z) ∧ w = w' := by
  go_enter Tryz.func10, Tryz.ntmps10
  go_wp2_with fail
  go_ret
  exact ⟨rfl, rfl⟩
set_option maxRecDepth 100000 in
set_option maxHeartbeats 4000000 in
theorem alive7_c (hW : Word25) (w : World) (hT : Tabs w) : Calls Tryz.prog 7 #[] w fun e w' => e = .returned (.bool true) ∧ Below w.heap.size w w' := by
  have HW := Lib.hid hW
  have kc := Lib.run_convert_bytes_const (P := Tryz.prog) w 22 5 #[.int .u8 91, .int .u8 49, .int .u8 44, .int .u8 32, .int .u8 50, .int .u8 46, .int .u8 53, .int .u8 48, .int .u8 93] 9 9 Tryz.underlying22 Tryz.underlying5
  have hb0 : Below w.heap.size w (w.alloc (.cells #[.int .u8 91, .int .u8 49, .int .u8 44, .int .u8 32, .int .u8 50, .int .u8 46, .int .u8 53, .int .u8 48, .int .u8 93] 5 (9, 10))) := (Below.refl _ _).alloc (Nat.le_refl _) _
  have hs0 : (w.alloc (.cells #[.int .u8 91, .int .u8 49, .int .u8 44, .int .u8 32, .int .u8 50, .int .u8 46, .int .u8 53, .int .u8 48, .int .u8 93] 5 (9, 10))).heap.size = w.heap.size + 1 := by simp
  have hoct : Oct (w.alloc (.cells #[.int .u8 91, .int .u8 49, .int .u8 44, .int .u8 32, .int .u8 50, .int .u8 46, .int .u8 53, .int .u8 48, .int .u8 93] 5 (9, 10))).heap.size exB (some ⟨w.heap.size, 0, none⟩) (w.alloc (.cells #[.int .u8 91, .int .u8 49, .int .u8 44, .int .u8 32, .int .u8 50, .int .u8 46, .int .u8 53, .int .u8 48, .int .u8 93] 5 (9, 10))) := fun k x hx => by
    refine ⟨w.heap.size, 0, rfl, by rw [hs0]; omega, ?_⟩
    rw [World.cell?_alloc_mark]
    unfold exB at hx
    match k, hx with
    | 0, hx => injection hx with hx; subst hx; rfl
    | 1, hx => injection hx with hx; subst hx; rfl
    | 2, hx => injection hx with hx; subst hx; rfl
    | 3, hx => injection hx with hx; subst hx; rfl
    | 4, hx => injection hx with hx; subst hx; rfl
    | 5, hx => injection hx with hx; subst hx; rfl
    | 6, hx => injection hx with hx; subst hx; rfl
    | 7, hx => injection hx with hx; subst hx; rfl
    | 8, hx => injection hx with hx; subst hx; rfl
    | k + 9, hx => simp at hx
  have HR := Lib.hid (Read_c (c := 9) (valC 64) hoct (hT.below hb0) (by decide) (by decide))
  have HB0 := Lib.hid hb0
  have HS0 := Lib.hid hs0
  clear hW hT hb0 hs0 hoct
  go_enter Tryz.func7, Tryz.ntmps7
  go_wp2_with fail
  refine HR.out.mono ?_
  rintro e w1 ⟨⟨cs, rfl, hv⟩, hb1⟩
  rw [alive_read] at hv
  have hr2 : ((rRead mkObj exB).2.1 : Int) = 9 := by rw [alive_read]; rfl
  have hr3 : ((rRead mkObj exB).2.2 : Int) = 0 := by rw [alive_read]; rfl
  rw [hr2, hr3]
  clear hr2 hr3 HR kc
  have hv : VIn w1 _ (.mk 5 false [] 0 ⟨#[]⟩ [numV [49], numV [50, 46, 53, 48]] []) cs := hv
  obtain ⟨A1, n1, c1, LA1, ln1, lc1, KA1, kn1, kc1, rfl, _, _, _, hl1, _⟩ := hv.parts
  obtain rfl : 2 = ln1 := hl1.1
  obtain ⟨_, _, csl, hrow, hall⟩ := hl1
  obtain ⟨b, off, rfl, hbS, hc⟩ := hrow (by omega)
  have hv2 := hall 1 _ rfl
  rw [alive_num] at hv2
  obtain ⟨hc7, hcc⟩ := hc 1 (by omega)
  obtain ⟨A2, n2, c2, LA2, ln2, lc2, KA2, kn2, kc2, he2, hrd2, _, _, _, _⟩ := hv2.parts
  obtain rfl : 1 = n2 := hrd2.len
  rw [he2] at hcc
  have hbw := hbS.2
  have x0 : w1.cell? ⟨b, off + 7, none⟩ = some (.int .i64 3) := hcc 0 (by omega)
  have x1 : w1.cell? ⟨b, off + 7 + 1, none⟩ = some (.bool false) := hcc 1 (by omega)
  have x2 : w1.cell? ⟨b, off + 7 + 2, none⟩ = some (.slice A2 1 c2) := hcc 2 (by omega)
  have x3 : w1.cell? ⟨b, off + 7 + 3, none⟩ = some (.int .i64 (-1)) := hcc 3 (by omega)
  have HV2 := Lib.hid hrd2
  have HB1 := Lib.hid hb1
  clear hv hv2 hrow hall hc hcc hc7 he2 hrd2 hb1
  go_wp2_with fail
  have f0 : ∀ j, (w1.alloc (.cells #[.int .i64 5, .bool false, .slice A1 n1 c1, .int .i64 0, .string ⟨#[]⟩, .slice (some ⟨b, off, none⟩) 2 lc1, .slice KA1 kn1 kc1] 34)).frozen? ⟨w1.heap.size, j, none⟩ = false := fun j => frozen_of_row _ _ j _ _ (World.alloc_heap_new w1 _)
  have hbx := World.alloc_heap_new w1 (.cells #[.int .i64 5, .bool false, .slice A1 n1 c1, .int .i64 0, .string ⟨#[]⟩, .slice (some ⟨b, off, none⟩) 2 lc1, .slice KA1 kn1 kc1] 34)
  have hb2 : Below w1.heap.size w1 (w1.alloc (.cells #[.int .i64 5, .bool false, .slice A1 n1 c1, .int .i64 0, .string ⟨#[]⟩, .slice (some ⟨b, off, none⟩) 2 lc1, .slice KA1 kn1 kc1] 34)) := (Below.refl _ _).alloc (Nat.le_refl _) _
  have HV3 := Lib.hid (HV2.out.keep (w' := (w1.alloc (.cells #[.int .i64 5, .bool false, .slice A1 n1 c1, .int .i64 0, .string ⟨#[]⟩, .slice (some ⟨b, off, none⟩) 2 lc1, .slice KA1 kn1 kc1] 34))) fun p hp => hb2.cell hp.2)
  have hs2 : (w1.alloc (.cells #[.int .i64 5, .bool false, .slice A1 n1 c1, .int .i64 0, .string ⟨#[]⟩, .slice (some ⟨b, off, none⟩) 2 lc1, .slice KA1 kn1 kc1] 34)).heap.size = w1.heap.size + 1 := by simp
  have y0 := (hb2.cell (p := ⟨b, off + 7, none⟩) hbw).trans x0
  have y1 := (hb2.cell (p := ⟨b, off + 7 + 1, none⟩) hbw).trans x1
  have y2 := (hb2.cell (p := ⟨b, off + 7 + 2, none⟩) hbw).trans x2
  have y3 := (hb2.cell (p := ⟨b, off + 7 + 3, none⟩) hbw).trans x3
  generalize (w1.alloc (.cells #[.int .i64 5, .bool false, .slice A1 n1 c1, .int .i64 0, .string ⟨#[]⟩, .slice (some ⟨b, off, none⟩) 2 lc1, .slice KA1 kn1 kc1] 34)) = w2 at *
  obtain ⟨t0, t1, t2, t3, t4, t5, t6⟩ := box7_of hbx
  have HC := HW.out _ c2 A2 w2 HV3.out (fun b hb => by have := hb.2; have := hb2.size; omega)
  refine (lnum7_c 0 w2).mono ?_
  rintro e w3 ⟨rfl, rfl⟩
  go_wp2_with fail
  refine HC.mono ?_
  rintro e w4 ⟨rfl, hb4⟩
  go_wp2_with fail
  go_ret
  exact ⟨rfl, (HB0.out.trans (HB1.out.mono (by have := HS0.out; omega))).trans ((hb2.mono (by have := HS0.out; have := HB1.out.size; omega)).trans (hb4.mono (by have := HS0.out; have := HB1.out.size; have := hb2.size; omega)))⟩
end Go.Proofs.YtpjllcengnolkaaGreatDoor
