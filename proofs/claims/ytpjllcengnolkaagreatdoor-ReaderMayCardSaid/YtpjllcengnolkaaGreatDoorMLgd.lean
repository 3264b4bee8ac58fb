/-
  The reader reads as the page has it: the contracts of value, Next and Read without a hypothesis.
  Contract of reader.All.
  Values that may be, as the reference's Check goes through them. Pure, no program.
-/
import Derived.Test.YtpjllcengnolkaaGreatDoorMLobj
import Derived.Test.YtpjllcengnolkaaGreatDoorMLcu
import Derived.Test.YtpjllcengnolkaaGreatDoorMLrd
import Derived.Test.YtpjllcengnolkaaGreatDoorMDsgn
import Derived.Test.YtpjllcengnolkaaGreatDoorMVob
import Derived.Test.YtpjllcengnolkaaGreatDoorMLsc
import Derived.Test.YtpjllcengnolkaaGreatDoorMDfm
import Derived.Test.YtpjllcengnolkaaGreatDoorMRalive
import Derived.Test.YtpjllcengnolkaaGreatDoorMRtail
import Derived.Test.YtpjllcengnolkaaGreatDoorMUtextb
import Derived.Test.YtpjllcengnolkaaGreatDoorMDnumd
import Derived.Deep.RegionHeld3
import Derived.Deep.QuietTactic
import Derived.BigQuiet
import Derived.Deep.Cut
import Derived.Deep.CutRange
import Derived.Laws.EntriesVeiled
import Derived.Test.YtpjllcengnolkaaGreatDoorMNlimb
import Derived.Test.YtpjllcengnolkaaGreatDoorMLte
set_option linter.unusedVariables false
set_option linter.unusedSimpArgs false
namespace Go.Proofs.YtpjllcengnolkaaGreatDoor
open Go.RowKit Go.Lib
theorem objC_of {k : Nat} (ih : ValC k) : ObjC k := fun E hko hcap hpl => robject_c ih E hko hcap hpl
theorem valC (k : Nat) : ValC k := val_all (fun _ ih => objC_of ih) k
end Go.Proofs.YtpjllcengnolkaaGreatDoor

namespace Go.Proofs.YtpjllcengnolkaaGreatDoor
open Go.RowKit Go.Lib
variable {L : List UInt8} {A : Option Addr} {c : Nat}

/-- What Next tells, of too many octets, too. -/
def nextR (b : List UInt8) (p : Nat) : RR (Option VT) := if 65536 < b.length then .bad 0 5 else rNext mkObj b p
def rAllG (b : List UInt8) : Nat → List VT → Nat → List VT × Nat × Nat
  | 0, l, p => (l, p, 3)
  | n + 1, l, p => match nextR b p with
    | .bad q e => (l, q, e)
    | .ok none _ => (l, b.length, 0)
    | .ok (some v) q => if l.length = 4096 then (l, wsE b p, 3) else rAllG b n (l ++ [v]) q
theorem rAll_G (b : List UInt8) : rAll mkObj b = rAllG b 5000 [] 0 := by
  unfold rAll
  by_cases h : 65536 < b.length
  · rw [if_pos h]
    unfold rAllG nextR
    rw [if_pos h]
  · rw [if_neg h]
    have key : ∀ n l p, rAllF mkObj b n l p = rAllG b n l p := by
      intro n
      induction n with
      | zero => intro l p; rfl
      | succ n ih =>
        intro l p
        unfold rAllF rAllG nextR
        rw [if_neg h]
        cases rNext mkObj b p with
        | bad q e => rfl
        | ok o q =>
          cases o with
          | none => rfl
          | some v =>
            show (if l.length = 4096 then _ else rAllF mkObj b n (l ++ [v]) q) = (if l.length = 4096 then _ else rAllG b n (l ++ [v]) q)
            rw [ih]; rfl
    exact key _ _ _
/-- What Next comes to. -/
def PoY (L : List UInt8) (N : Nat) (p : Nat) (e : Ending) (w' : World) : Prop :=
  match nextR L p with
  | .ok none _ => e = .returned (.tuple #[zv, .int .i64 0, .bool false, .int .i64 0])
  | .ok (some v) q => ∃ k neg A1 n1 c1 ex t LA ln lc KA kn kc, e = .returned (.tuple #[.agg #[.int .i64 k, .bool neg, .slice A1 n1 c1, .int .i64 ex, .string t, .slice LA ln lc, .slice KA kn kc], .int .i64 (q : Int), .bool true, .int .i64 0]) ∧
    VIn w' (fun b => N ≤ b ∧ b < w'.heap.size) v [.int .i64 k, .bool neg, .slice A1 n1 c1, .int .i64 ex, .string t, .slice LA ln lc, .slice KA kn kc] ∧ q ≤ L.length ∧ L.length ≤ 65536
  | .bad q x => e = .returned (.tuple #[zv, .int .i64 (q : Int), .bool false, .int .i64 (x : Int)]) ∧ x ≠ 0
theorem PoX.y {N p : Nat} {e : Ending} {w' : World} (h : PoX L N p e w') : PoY L N p e w' := by
  unfold PoX at h
  unfold PoY nextR
  by_cases hl : 65536 < L.length
  · rw [if_pos hl] at h ⊢
    exact ⟨h, by decide⟩
  · rw [if_neg hl] at h ⊢
    cases hr : rNext mkObj L p with
    | bad q x => rw [hr] at h; exact h
    | ok o q =>
      rw [hr] at h
      cases o with
      | none => exact h
      | some v =>
        obtain ⟨cs, rfl, hv, hq⟩ := h
        cases v with
        | mk k neg xs ex t l ks =>
          obtain ⟨A1, n1, c1, LA1, ln1, lc1, KA1, kn1, kc1, rfl, -⟩ := hv.parts
          exact ⟨k, neg, A1, n1, c1, ex, t, LA1, ln1, lc1, KA1, kn1, kc1, rfl, hv, hq, by omega⟩
theorem Grow.row {N : Nat} {l : List VT} {W : World} {LA : Option Addr} {n lc : Nat} (h : Grow N (.slice LA n lc) l W) (hn : n = l.length) (hs : n ≤ 1256584717458) : RdL W (fun b => N ≤ b ∧ b < W.heap.size) LA n l ∧ n ≤ lc := by
  obtain ⟨A', n', c', LA', ln', lc', KA', kn', kc', he, _, _, _, h1, _, _, h2⟩ := (h.rdl (k := 0) (e := 0) hn hs).parts
  simp only [List.cons.injEq, Value.slice.injEq] at he
  obtain ⟨-, -, -, -, -, ⟨rfl, rfl, rfl⟩, -⟩ := he
  exact ⟨h1, h2⟩
def lenV : Value → Nat
  | .slice _ n _ => n
  | _ => 0
/-- What All comes to. -/
def PoA (L : List UInt8) (N : Nat) (e : Ending) (w' : World) : Prop := ∃ (LA : Option Addr) (lc : Nat), e = .returned (.tuple #[.slice LA (rAll mkObj L).1.length lc, .int .i64 ((rAll mkObj L).2.1 : Int), .int .i64 ((rAll mkObj L).2.2 : Int)]) ∧
  RdL w' (fun b => N ≤ b ∧ b < w'.heap.size) LA (rAll mkObj L).1.length (rAll mkObj L).1 ∧ (rAll mkObj L).1.length ≤ lc ∧ (rAll mkObj L).1.length ≤ 4096

set_option maxRecDepth 100000 in
set_option maxHeartbeats 4000000 in
theorem All_c {w : World} (ho : Oct w.heap.size L A w) (hT : Tabs w) (hcap : L.length ≤ c) (hlen : L.length ≤ 140737488355328) :
    Calls Tryz.prog 8 #[.slice A L.length c] w fun e w' => PoA L w.heap.size e w' ∧ Below w.heap.size w w' := by
  obtain ⟨i7, hi7, hp7, hq7, hr7⟩ := info_parts infoV7
  obtain ⟨N, hN⟩ : ∃ N, w.heap.size = N := ⟨_, rfl⟩
  obtain ⟨R, hR⟩ : ∃ R, rAll mkObj L = R := ⟨_, rfl⟩
  have hfin : ∀ (l : List VT) (q x ln : Nat) (LA : Option Addr) (lc : Nat) (w' : World), R = (l, q, x) → l.length = ln → Grow N (.slice LA ln lc) l w' → ln ≤ 4096 → Below N w w' → PoA L N (.returned (.tuple #[.slice LA ln lc, .int .i64 (q : Int), .int .i64 (x : Int)])) w' ∧ Below N w w' := by
    intro l q x ln LA lc w' h1 h2 h3 h4 h5
    subst h2
    obtain ⟨h6, h7⟩ := h3.row rfl (by omega)
    refine ⟨⟨LA, lc, ?_, ?_, ?_, ?_⟩, h5⟩ <;> rw [hR, h1] <;> first | rfl | exact h6 | exact h7 | exact h4
  have HFIN := Lib.hid hfin
  have HS0 := Lib.hid (show rAllG L 5000 [] 0 = R from by rw [← rAll_G]; exact hR)
  have HO := Lib.hid (show ∀ W, Below N w W → Oct W.heap.size L A W from fun W hW k x hk => by
    obtain ⟨g, off, e1, e2, e3⟩ := ho k x hk
    exact ⟨g, off, e1, by have := hW.size; omega, (hW.cell (p := ⟨g, off + k, none⟩) (by show g < _; omega)).trans e3⟩)
  have hT0 := hT.lt0
  have HT := Lib.hid (show ∀ W, Below N w W → Tabs W from fun W hW => hT.below (hN ▸ hW))
  have HN := Lib.hid hN
  have HN0 := Lib.hid (show 0 < N from by have := hT0; omega)
  rw [hN]
  clear hfin ho hT hT0 hR hN
  go_enter Tryz.func8, Tryz.ntmps8
  go_wp2
  go_loopw [5, 6] (fun ov av wr => ∃ (l : List VT) (p ln lc : Nat) (LA : Option Addr), ov = .slice LA ln lc ∧ av = .int .i64 (p : Int) ∧ p ≤ L.length ∧ ln ≤ 4096 ∧ Hid (l.length = ln) ∧ Hid (Grow N (.slice LA ln lc) l wr) ∧ Hid (Below N w wr) ∧ Hid (rAllG L (5000 - ln) l p = R)) (fun ov _ _ => 5000 - lenV ov)
  case atStart => exact ⟨[], 0, 0, 0, none, rfl, rfl, Nat.zero_le _, Nat.zero_le _, rfl, Grow.nil _ _, Below.refl _ _, HS0.out⟩
  case round =>
    obtain ⟨l, p, ln, lc, LA, rfl, rfl, hp, hln4, hll, hg, hbel, hsp⟩ := hrel
    have hnx := Next_c (c := c) (valC 64) (w := wr) (p := p) (HO.out wr hbel.out) (HT.out wr hbel.out) hcap hlen hp
    have HNX := Lib.hid hnx
    clear hnx
    go_wp2_with fail
    refine HNX.out.mono ?_
    rintro e w2 ⟨hpx, hb2⟩
    have hpy := hpx.y
    clear hpx HNX
    obtain ⟨m, hm⟩ : ∃ m, 5000 - ln = m + 1 := ⟨4999 - ln, by omega⟩
    have hsp' := hsp.out
    rw [hm] at hsp'
    unfold rAllG at hsp'
    unfold PoY at hpy
    have HB2 := Lib.hid hb2
    have HBEL := Lib.hid hbel.out
    have HG := Lib.hid hg.out
    have HLL := Lib.hid hll.out
    have hNw : N ≤ wr.heap.size := by have := hbel.out.size; have := HN.out; omega
    have HNW := Lib.hid hNw
    clear hb2 hbel hg hll hsp hNw
    cases hn : nextR L p with
    | bad q x =>
      rw [hn] at hpy hsp'
      obtain ⟨rfl, hx0⟩ := hpy
      have hx1 : ¬ (x : Int) = 0 := by omega
      have hx2 : ((x : Int) == 0) = false := by simpa using hx1
      have HB3 := Lib.hid ((HBEL.out.trans (HB2.out.mono HNW.out)).alloc (by have := HB2.out.size; have := HNW.out; omega) (.cells #[.int .i64 0, .bool false, .slice none 0 0, .int .i64 0, .string ⟨#[]⟩, .slice none 0 0, .slice none 0 0] 34))
      have hgr := HG.out.keep (C := fun _ => False) ((But.of HB2.out).alloc (.cells #[.int .i64 0, .bool false, .slice none 0 0, .int .i64 0, .string ⟨#[]⟩, .slice none 0 0, .slice none 0 0] 34)) (fun k h => h.elim)
      have HGR := Lib.hid hgr
      have HSP := Lib.hid hsp'
      clear hgr hsp' hn hx0
      go_wp2_with fail
      refine bodyPost_ret (v := .tuple #[.slice LA ln lc, .int .i64 (q : Int), .int .i64 (x : Int)]) (by simp [results, Tryz.results8, go_sem]) rfl ?_
      exact HFIN.out l q x ln LA lc _ HSP.out.symm HLL.out HGR.out hln4 HB3.out
    | ok o q =>
      cases o with
      | none =>
        rw [hn] at hpy hsp'
        have hpy : e = _ := hpy
        subst hpy
        have HB3 := Lib.hid ((HBEL.out.trans (HB2.out.mono HNW.out)).alloc (by have := HB2.out.size; have := HNW.out; omega) (.cells #[.int .i64 0, .bool false, .slice none 0 0, .int .i64 0, .string ⟨#[]⟩, .slice none 0 0, .slice none 0 0] 34))
        have hgr := HG.out.keep (C := fun _ => False) ((But.of HB2.out).alloc (.cells #[.int .i64 0, .bool false, .slice none 0 0, .int .i64 0, .string ⟨#[]⟩, .slice none 0 0, .slice none 0 0] 34)) (fun k h => h.elim)
        have HGR := Lib.hid hgr
        have HSP := Lib.hid (show (l, L.length, 0) = R from hsp')
        clear hgr hsp' hn
        go_wp2_with fail
        refine bodyPost_ret (v := .tuple #[.slice LA ln lc, .int .i64 ((L.length : Nat) : Int), .int .i64 ((0 : Nat) : Int)]) (by simp [results, Tryz.results8, go_sem]) rfl ?_
        exact HFIN.out l L.length 0 ln LA lc _ HSP.out.symm HLL.out HGR.out hln4 HB3.out
      | some v =>
        rw [hn] at hpy hsp'
        have hsp' : (if l.length = 4096 then (l, wsE L p, 3) else rAllG L m (l ++ [v]) q) = R := hsp'
        obtain ⟨k, neg, A1, n1, c1, ex, t, LA1, ln1, lc1, KA, kn, kc, rfl, hvi, hql, hl6⟩ := hpy
        have HB3 := Lib.hid ((HBEL.out.trans (HB2.out.mono HNW.out)).alloc (by have := HB2.out.size; have := HNW.out; omega) (.cells #[.int .i64 k, .bool neg, .slice A1 n1 c1, .int .i64 ex, .string t, .slice LA1 ln1 lc1, .slice KA kn kc] 34))
        have hbx := World.alloc_heap_new w2 (.cells #[.int .i64 k, .bool neg, .slice A1 n1 c1, .int .i64 ex, .string t, .slice LA1 ln1 lc1, .slice KA kn kc] 34)
        have H23 := Lib.hid ((Below.refl w2.heap.size w2).alloc (Nat.le_refl _) (.cells #[.int .i64 k, .bool neg, .slice A1 n1 c1, .int .i64 ex, .string t, .slice LA1 ln1 lc1, .slice KA kn kc] 34))
        have hgr := HG.out.keep (C := fun _ => False) ((But.of HB2.out).alloc (.cells #[.int .i64 k, .bool neg, .slice A1 n1 c1, .int .i64 ex, .string t, .slice LA1 ln1 lc1, .slice KA kn kc] 34)) (fun k h => h.elim)
        have HGR := Lib.hid hgr
        have hs3 : (w2.alloc (.cells #[.int .i64 k, .bool neg, .slice A1 n1 c1, .int .i64 ex, .string t, .slice LA1 ln1 lc1, .slice KA kn kc] 34)).heap.size = w2.heap.size + 1 := by simp
        have HS3 := Lib.hid hs3
        obtain ⟨t0, t1, t2, t3, t4, t5, t6⟩ := box7_of hbx
        have HVI := Lib.hid hvi
        clear hgr hn hs3 hbx hvi
        by_cases h96 : ln = 4096
        · rw [if_pos (by rw [HLL.out]; exact h96)] at hsp'
          have HSP := Lib.hid hsp'
          have h96i : (ln : Int) = 4096 := by omega
          have hspc := fun V (hV : Below N w V) => Space_c (c := c) (w := V) (B := V.heap.size) (p := p) (HO.out V hV) hl6 hp
          obtain ⟨F, hF⟩ : ∃ F, wsE L p = F := ⟨_, rfl⟩
          rw [hF] at hspc hsp'
          have HSC := Lib.hid hspc
          have HSP := Lib.hid hsp'
          clear hspc hsp' t0 t1 t2 t3 t4 t5 t6 hF h96
          go_wp2_with fail
          generalize (w2.alloc (.cells #[.int .i64 k, .bool neg, .slice A1 n1 c1, .int .i64 ex, .string t, .slice LA1 ln1 lc1, .slice KA kn kc] 34)) = w3 at *
          refine (HSC.out w3 HB3.out).mono ?_
          rintro e' w4 ⟨rfl, rfl⟩
          go_wp2_with fail
          refine bodyPost_ret (v := .tuple #[.slice LA ln lc, .int .i64 (F : Int), .int .i64 ((3 : Nat) : Int)]) (by simp [results, Tryz.results8, go_sem]) rfl ?_
          exact HFIN.out l F 3 ln LA lc _ HSP.out.symm HLL.out HGR.out hln4 HB3.out
        · rw [if_neg (by rw [HLL.out]; exact h96)] at hsp'
          have h96i : ¬ (ln : Int) = 4096 := by omega
          have h96b : ((ln : Int) == 4096) = false := by simpa using h96i
          have HSP := Lib.hid hsp'
          clear hsp'
          go_upto_region 10 with fail
          generalize (w2.alloc (.cells #[.int .i64 k, .bool neg, .slice A1 n1 c1, .int .i64 ex, .string t, .slice LA1 ln1 lc1, .slice KA kn kc] 34)) = w3 at *
          have hgr4 := HGR.out.keep (C := fun _ => False) ((But.refl _ w3).alloc (.cells #[.int .i64 k, .bool neg, .slice A1 n1 c1, .int .i64 ex, .string t, .slice LA1 ln1 lc1, .slice KA kn kc] 34)) (fun k h => h.elim)
          obtain ⟨fs, hown, hf7, hft⟩ := hgr4
          rw [HLL.out] at hown hf7
          have hvl : ∀ k, (Value.slice LA ln lc).ownBlock = some k → k < wr.heap.size := fun k hk => by
            obtain ⟨fs', hown', -⟩ := HG.out
            rw [HLL.out] at hown'
            exact (ownsRow_lt hown' hk).2
          have HVL := Lib.hid hvl
          have HOWN := Lib.hid hown
          have HF7 := Lib.hid hf7
          have HFT := Lib.hid hft
          have HONE := Lib.hid (show ∀ u ∈ ([.int .i64 k, .bool neg, .slice A1 n1 c1, .int .i64 ex, .string t, .slice LA1 ln1 lc1, .slice KA kn kc] : List Value), u.oneCell' = true from by simp [Value.oneCell'])
          have H24 := Lib.hid (show Below w2.heap.size w2 (w3.alloc (.cells #[.int .i64 k, .bool neg, .slice A1 n1 c1, .int .i64 ex, .string t, .slice LA1 ln1 lc1, .slice KA kn kc] 34)) from H23.out.alloc (by have := HS3.out; omega) (.cells #[.int .i64 k, .bool neg, .slice A1 n1 c1, .int .i64 ex, .string t, .slice LA1 ln1 lc1, .slice KA kn kc] 34))
          have hb04 := HB3.out.alloc (by have := HS3.out; have := HB2.out.size; have := HNW.out; omega) (.cells #[.int .i64 k, .bool neg, .slice A1 n1 c1, .int .i64 ex, .string t, .slice LA1 ln1 lc1, .slice KA kn kc] 34)
          have HB04 := Lib.hid hb04
          have HN4 := Lib.hid (show N ≤ (w3.alloc (.cells #[.int .i64 k, .bool neg, .slice A1 n1 c1, .int .i64 ex, .string t, .slice LA1 ln1 lc1, .slice KA kn kc] 34)).heap.size from by rw [World.size_alloc]; have := HS3.out; have := HB2.out.size; have := HNW.out; omega)
          have HZ := Lib.hid (new7 w3 (.int .i64 k) (.bool neg) (.slice A1 n1 c1) (.int .i64 ex) (.string t) (.slice LA1 ln1 lc1) (.slice KA kn kc) 34)
          have hln63 : ln < 4096 := by omega
          clear hown hf7 hft hvl hb04 h96i h96b h96
          go_wp2_with (at_builtin; refine wpList_append_own_at _ rfl (.tmp 39) (.tmp 41) _ rfl N 34 i7 (.agg #[.int .i64 0, .bool false, .slice none 0 0, .int .i64 0, .string ⟨#[]⟩, .slice none 0 0, .slice none 0 0]) 7 112 Tryz.underlying24 hi7 hp7 hq7 hr7 rfl (by decide) (.slice LA ln lc) ln (flatC fs id ln) rfl HOWN.out ⟨w3.heap.size, 0, none⟩ 1 1 [.int .i64 k, .bool neg, .slice A1 n1 c1, .int .i64 ex, .string t, .slice LA1 ln1 lc1, .slice KA kn kc] rfl rfl HZ.out HONE.out (by unfold maxLen; omega) (by omega) HN4.out ?_; intro v' w5 hown5 hg5 _ hat5; obtain ⟨g', cap', rfl⟩ := ownsRow_succ hown5; have HOWN5 := Lib.hid hown5; have HG5 := Lib.hid hg5; have HAT5 := Lib.hid hat5; clear hown5 hg5 hat5)
          go_roundw
          case rel =>
            refine ⟨l ++ [v], q, ln + 1, cap', some ⟨g', 0, none⟩, rfl, rfl, hql, by omega, ?_, ?_, ?_, ?_⟩
            · show _ = _; rw [List.length_append, HLL.out]; rfl
            · exact Grow.push (M := wr.heap.size) (ob := 0) HLL.out HF7.out HFT.out HVL.out HNW.out H24.out HVI.out rfl HG5.out HAT5.out (But.refl _ _) (by have := HN0.out; omega) HOWN5.out
            · exact HB04.out.grown HG5.out HN4.out (fun k hk => (ownsRow_lt HOWN.out hk).1)
            · show _ = _; rw [show 5000 - (ln + 1) = m by omega]; exact HSP.out
          case measure => simp [lenV]; omega
end Go.Proofs.YtpjllcengnolkaaGreatDoor

namespace Go.Proofs.YtpjllcengnolkaaGreatDoor
open Go.RowKit

theorem preL_parts (lv : Nat) : ∀ l : List VT, (preL lv l).map (·.2) = l.flatMap partsV
  | [] => by simp [preL]
  | v :: r => by
    simp only [preL, List.map_append, List.flatMap_cons, preL_parts lv r]
    rw [pre_snd lv 0 v]; rfl
theorem parts_eq (x : VT) : partsV x = x :: x.inner.flatMap partsV := by
  unfold partsV
  rw [pre_eq]
  simp only [List.map_cons]
  rw [preL_parts]; rfl
/-- As many parts as the first k values of a list have. -/
def szL (l : List VT) (k : Nat) : Nat := ((l.take k).flatMap partsV).length
theorem szL_zero (l : List VT) : szL l 0 = 0 := by simp [szL]
theorem szL_succ {l : List VT} {k : Nat} {x : VT} (h : l[k]? = some x) : szL l (k + 1) = szL l k + (partsV x).length := by
  unfold szL
  rw [List.take_add_one, h]
  simp
theorem szL_le (l : List VT) (k : Nat) : szL l k ≤ (l.flatMap partsV).length := by
  unfold szL
  have h : l.flatMap partsV = (l.take k).flatMap partsV ++ (l.drop k).flatMap partsV := by rw [← List.flatMap_append, List.take_append_drop]
  rw [h, List.length_append]; omega
theorem szL_all (l : List VT) : szL l l.length = (l.flatMap partsV).length := by unfold szL; rw [List.take_length]

/-- A value all of whose parts may be by themselves. -/
def Gd (x : VT) : Prop := ∀ y ∈ partsV x, alone y = 0
theorem Gd.own {x : VT} (h : Gd x) : alone x = 0 := h x (by rw [parts_eq]; exact List.mem_cons_self)
theorem Gd.sub {x z : VT} (h : Gd x) (hz : z ∈ x.inner) : Gd z := fun y hy => h y (by rw [parts_eq]; exact List.mem_cons_of_mem _ (List.mem_flatMap.2 ⟨z, hz, hy⟩))
theorem fitV_mk2 (k : Int) (n : Bool) (x : List Nat) (e : Int) (t : ByteArray) (l : List VT) (ks : List ByteArray) : fitV (.mk k n x e t l ks) =
    if k = 3 then okB n x e && decide (t.size + l.length + ks.length = 0)
    else if k = 4 then decide (x.length + l.length + ks.length = 0) && !n && decide (e = 0)
    else if k = 5 then decide (x.length + t.size + ks.length = 0) && !n && decide (e = 0)
    else if k = 6 then decide (ks.length = l.length) && rises ks && decide (x.length + t.size = 0) && !n && decide (e = 0)
    else decide (x.length + t.size + l.length + ks.length = 0) && !n && decide (e = 0) := rfl
theorem ownT_mk (k : Int) (n : Bool) (x : List Nat) (e : Int) (t : ByteArray) (l : List VT) (ks : List ByteArray) : ownT (.mk k n x e t l ks) = if k = 4 then [t] else if k = 6 then ks else [] := rfl
/-- What a value that may be by itself is. -/
theorem alone_zero {x : VT} (h : alone x = 0) : (0 ≤ x.kind ∧ x.kind ≤ 6) ∧ (∀ s ∈ ownT x, isT s.data.toList = true ∧ s.size ≤ 16384) ∧ (ownT x).length ≤ 4096 ∧ x.inner.length ≤ 4096 ∧ fitV x = true := by
  unfold alone at h
  split at h
  · exact absurd h (by decide)
  rename_i h1
  split at h
  · exact absurd h (by decide)
  rename_i h2
  split at h
  · exact absurd h (by decide)
  rename_i h3
  split at h
  · exact absurd h (by decide)
  rename_i h4
  split at h
  · rename_i h5
    refine ⟨by omega, fun s hs => ⟨?_, ?_⟩, by omega, by omega, h5⟩
    · rcases hh : isT s.data.toList with _ | _
      · exact absurd (List.any_eq_true.2 ⟨s, hs, by simp [hh]⟩) h2
      · rfl
    · rcases Nat.lt_or_ge 16384 s.size with h6 | h6
      · exact absurd (List.any_eq_true.2 ⟨s, hs, by simpa using h6⟩) h3
      · exact h6
  · exact absurd h (by decide)
/-- .. field by field. -/
theorem alone_fields {x : VT} (h : alone x = 0) : x.list = x.inner ∧
    (x.kind ≠ 3 → x.num = [] ∧ x.neg = false ∧ x.exp = 0) ∧ (x.kind = 3 → okB x.neg x.num x.exp = true) ∧ (x.kind ≠ 4 → x.text.size = 0) ∧ (x.kind = 4 → isT x.text.data.toList = true ∧ x.text.size ≤ 16384) ∧
    (x.kind ≠ 6 → x.keys = []) ∧ (x.kind = 6 → x.keys.length = x.list.length ∧ rises x.keys = true) ∧ (∀ s ∈ x.keys, isT s.data.toList = true ∧ s.size ≤ 16384) ∧ x.list.length ≤ 4096 ∧ x.keys.length ≤ 4096 ∧ (x.kind < 5 → x.list = []) := by
  obtain ⟨⟨h1, h2⟩, h3, h4, h5, h6⟩ := alone_zero h
  cases x with
  | mk k n xs e t l ks =>
    simp only [VT.kind, VT.list, VT.num, VT.neg, VT.exp, VT.text, VT.keys] at *
    rw [inner_mk] at h5 ⊢
    rw [fitV_mk2] at h6
    rw [ownT_mk] at h3 h4
    by_cases e3 : k = 3
    · subst e3
      rw [if_pos rfl] at h6
      simp only [Bool.and_eq_true, decide_eq_true_eq] at h6
      obtain ⟨h6, h7⟩ := h6
      have hl : l = [] := List.eq_nil_of_length_eq_zero (by omega)
      have hk : ks = [] := List.eq_nil_of_length_eq_zero (by omega)
      subst hl hk
      refine ⟨by simp [hold], fun h => absurd rfl h, fun _ => h6, fun _ => by omega, fun h => absurd h (by decide), fun _ => rfl, fun h => absurd h (by decide), fun s hs => absurd hs (by simp), by simp, by simp, fun _ => rfl⟩
    rw [if_neg e3] at h6
    by_cases e4 : k = 4
    · subst e4
      rw [if_pos rfl] at h6
      simp only [Bool.and_eq_true, decide_eq_true_eq, Bool.not_eq_true'] at h6
      obtain ⟨⟨h6, h7⟩, h8⟩ := h6
      have hl : l = [] := List.eq_nil_of_length_eq_zero (by omega)
      have hk : ks = [] := List.eq_nil_of_length_eq_zero (by omega)
      have hx : xs = [] := List.eq_nil_of_length_eq_zero (by omega)
      subst hl hk hx
      refine ⟨by simp [hold], fun _ => ⟨rfl, h7, h8⟩, fun h => absurd h (by decide), fun h => absurd rfl h, fun _ => h3 t (by simp), fun _ => rfl, fun h => absurd h (by decide), fun s hs => absurd hs (by simp), by simp, by simp, fun _ => rfl⟩
    rw [if_neg e4] at h6
    by_cases e5 : k = 5
    · subst e5
      rw [if_pos rfl] at h6
      simp only [Bool.and_eq_true, decide_eq_true_eq, Bool.not_eq_true'] at h6
      obtain ⟨⟨h6, h7⟩, h8⟩ := h6
      have hk : ks = [] := List.eq_nil_of_length_eq_zero (by omega)
      have hx : xs = [] := List.eq_nil_of_length_eq_zero (by omega)
      subst hk hx
      have hh : hold 5 = true := by decide
      rw [if_pos hh] at h5 ⊢
      refine ⟨rfl, fun _ => ⟨rfl, h7, h8⟩, fun h => absurd h (by decide), fun _ => by omega, fun h => absurd h (by decide), fun _ => rfl, fun h => absurd h (by decide), fun s hs => absurd hs (by simp), h5, by simp, fun h => absurd h (by decide)⟩
    rw [if_neg e5] at h6
    by_cases e6 : k = 6
    · subst e6
      rw [if_pos rfl] at h6
      simp only [Bool.and_eq_true, decide_eq_true_eq, Bool.not_eq_true'] at h6
      obtain ⟨⟨⟨⟨h6, h9⟩, h10⟩, h7⟩, h8⟩ := h6
      have hx : xs = [] := List.eq_nil_of_length_eq_zero (by omega)
      subst hx
      have hh : hold 6 = true := by decide
      rw [if_pos hh] at h5 ⊢
      rw [if_neg (by decide), if_pos rfl] at h3 h4
      refine ⟨rfl, fun _ => ⟨rfl, h7, h8⟩, fun h => absurd h (by decide), fun _ => by omega, fun h => absurd h (by decide), fun h => absurd rfl h, fun _ => ⟨h6, h9⟩, h3, h5, h4, fun h => absurd h (by decide)⟩
    rw [if_neg e6] at h6
    simp only [Bool.and_eq_true, decide_eq_true_eq, Bool.not_eq_true'] at h6
    obtain ⟨⟨h6, h7⟩, h8⟩ := h6
    have hl : l = [] := List.eq_nil_of_length_eq_zero (by omega)
    have hk : ks = [] := List.eq_nil_of_length_eq_zero (by omega)
    have hx : xs = [] := List.eq_nil_of_length_eq_zero (by omega)
    subst hl hk hx
    refine ⟨by simp, fun _ => ⟨rfl, h7, h8⟩, fun h => absurd h e3, fun _ => by omega, fun h => absurd h e4, fun _ => rfl, fun h => absurd h e6, fun s hs => absurd hs (by simp), by simp, by simp, fun _ => rfl⟩

/-- How deep a value goes, as far as is gone into. -/
def mxL : List Nat → Nat
  | [] => 0
  | a :: r => max a (mxL r)
theorem mxL_snoc (l : List Nat) (a : Nat) : mxL (l ++ [a]) = max (mxL l) a := by
  induction l with
  | nil => simp [mxL]
  | cons b r ih => simp only [List.cons_append, mxL, ih]; omega
theorem mxL_le {l : List Nat} {B : Nat} (h : ∀ a ∈ l, a ≤ B) : mxL l ≤ B := by
  induction l with
  | nil => simp [mxL]
  | cons b r ih =>
    have h1 := h b List.mem_cons_self
    have h2 := ih fun a ha => h a (List.mem_cons_of_mem _ ha)
    simp only [mxL]; omega
def dpt : Nat → VT → Nat
  | 0, _ => 0
  | n + 1, x => if hold x.kind then 1 + mxL (x.list.map (dpt n)) else 0
theorem dpt_le : ∀ (n : Nat) (x : VT), dpt n x ≤ n
  | 0, _ => Nat.le_refl _
  | n + 1, x => by
    unfold dpt
    split
    · have := mxL_le (l := x.list.map (dpt n)) (B := n) (fun a ha => by
        obtain ⟨z, -, rfl⟩ := List.mem_map.1 ha
        exact dpt_le n z)
      omega
    · omega
/-- .. of the first k values of a list. -/
def dpL (n : Nat) (l : List VT) (k : Nat) : Nat := mxL ((l.take k).map (dpt n))
theorem dpL_zero (n : Nat) (l : List VT) : dpL n l 0 = 0 := by simp [dpL, mxL]
theorem dpL_succ {n : Nat} {l : List VT} {k : Nat} {x : VT} (h : l[k]? = some x) : dpL n l (k + 1) = max (dpL n l k) (dpt n x) := by
  unfold dpL
  rw [List.take_add_one, h]
  simp only [Option.toList_some, List.map_append, List.map_cons, List.map_nil]
  rw [mxL_snoc]
theorem dpL_le (n : Nat) (l : List VT) (k : Nat) : dpL n l k ≤ n := mxL_le fun a ha => by
  obtain ⟨z, -, rfl⟩ := List.mem_map.1 ha
  exact dpt_le n z
theorem deepL_mem {lv : Nat} {z : VT} : ∀ {l : List VT}, z ∈ l → deepL (pre lv z) ≤ deepL (preL lv l)
  | v :: r, h => by
    simp only [preL]
    rw [deepL_append]
    rcases List.mem_cons.1 h with rfl | h
    · omega
    · have := deepL_mem (lv := lv) h; omega
theorem dpt_deep : ∀ (n lv : Nat) (x : VT), dpt n x = 0 ∨ lv + dpt n x ≤ deepL (pre lv x)
  | 0, _, _ => .inl rfl
  | n + 1, lv, x => by
    unfold dpt
    by_cases h : hold x.kind = true
    · right
      rw [if_pos h, pre_eq]
      have hin : x.inner = x.list := by unfold VT.inner; rw [if_pos h]
      rw [hin]
      simp only [deepL]
      rw [if_pos h]
      have hm : mxL (x.list.map (dpt n)) ≤ max (lv + 1) (deepL (preL (lv + 1) x.list)) - (lv + 1) := mxL_le fun a ha => by
        obtain ⟨z, hz, rfl⟩ := List.mem_map.1 ha
        rcases dpt_deep n (lv + 1) z with h1 | h1
        · omega
        · have := deepL_mem (lv := lv + 1) hz
          omega
      omega
    · left; rw [if_neg h]
theorem okV_gd {x : VT} (h : okV x) : Gd x ∧ (partsV x).length ≤ 16384 ∧ dpt 1000 x ≤ 64 := by
  obtain ⟨h1, h2, h3⟩ := okV_parts h
  refine ⟨h1, h2, ?_⟩
  rcases dpt_deep 1000 0 x with h4 | h4 <;> omega
end Go.Proofs.YtpjllcengnolkaaGreatDoor
