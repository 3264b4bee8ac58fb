/-
  Contract of Quote and of its closure.
  The reference's reader in memory, where nothing is wrong yet: its octets, its place; what comes next.
  Contract of the reference's hex, where four digits stand.
  Contract of the reference's unicode, where no half of a character stands.
-/
import Derived.Test.YtcanfiaooabocaaGreatDoorQWal
set_option linter.unusedVariables false
set_option linter.unusedSimpArgs false
namespace Go.Proofs.YtcanfiaooabocaaGreatDoor
open Go.RowKit Go.Lib

theorem quoteC_len (c : Int) : (quoteC c).length ≤ 6 := by
  unfold quoteC
  have := (enc_len c).2
  repeat' split
  all_goals first | (simp; done) | omega
theorem qL_len : ∀ cs : List Int, (qL quoteC cs).length ≤ 6 * cs.length
  | [] => by simp [qL]
  | c :: cs => by
    rw [qL_cons, List.length_append, List.length_cons]
    have := qL_len cs
    have := quoteC_len c
    omega
theorem chars_le {s : ByteArray} (hT : isT s.data.toList = true) : ((pcs s.data.toList).map (·.2)).length ≤ s.size := by
  have hlen : ∀ l : List Int, l.length ≤ (enc l).length := fun l => by
    induction l with
    | nil => simp
    | cons c l ih => rw [enc_cons, List.length_append, List.length_cons]; have := enc_len c; omega
  have h := hlen ((pcs s.data.toList).map (·.2))
  rw [(charsT hT).1, Array.length_toList] at h
  exact h
theorem txtL_len {s : ByteArray} (hT : isT s.data.toList = true) : (txtL quoteC s).length ≤ 6 * s.size + 2 := by
  unfold txtL
  have h1 := qL_len ((pcs s.data.toList).map (·.2))
  have h2 := chars_le hT
  simp only [List.length_cons, List.length_append, List.length_nil]
  omega
set_option maxRecDepth 100000 in
set_option maxHeartbeats 2000000 in
theorem quo1_c {B pb bp : Nat} {room : Nat} (s : ByteArray) (w : World) (hP : Pg B pb [] room 0 0 plainF w) (hG : Gl B w) (hB : B ≤ w.heap.size) (hT : isT s.data.toList = true) (hs : s.size ≤ 1099511627776) (hbox : w.heap[bp]? = some (.cells #[.string s] 9)) :
    Calls Tryz.prog 36 #[pgP pb, .pointer (some ⟨bp, 0, none⟩)] w (Wr B pb [] room 0 0 plainF w (txtL quoteC s)) := by
  have hl := txtL_len hT
  have hc := ptext_c (.inl ⟨rfl, rfl⟩) w hP hG hB s hT (by omega) (.inl (by rw [List.length_nil]; omega))
  obtain ⟨R, hR⟩ : ∃ R, Wr B pb [] room 0 0 plainF w (txtL quoteC s) = R := ⟨_, rfl⟩
  have hRr : ∀ v w', R (.returned v) w' → v = .tuple #[] := by
    rintro v w' h
    rw [← hR] at h
    rcases h with ⟨-, h, -⟩ | ⟨-, h, -⟩
    · injection h
    · cases h
  have hRo : ∀ w', ¬ R .outgrown w' := by
    rintro w' h
    rw [← hR] at h
    rcases h with ⟨-, h, -⟩ | ⟨-, h, -⟩ <;> cases h
  rw [hR] at hc ⊢
  have y0 := cell_at3 (i := 0) hbox rfl
  have HC := Lib.hid hc
  have HR := Lib.hid hRr
  have HRO := Lib.hid hRo
  clear hc hR hbox hP hG hRr hRo hT hl
  go_enter Tryz.func36, Tryz.ntmps36
  go_wp2_with fail
  refine HC.out.mono ?_
  rintro e9 w9 hr
  cases e9 with
  | returned v =>
    have hv := HR.out _ _ hr
    subst hv
    go_wp2_with fail
    first | go_end0 | refine bodyPost_ret (results_none rfl _ _ _) rfl ?_
    exact hr
  | panicked ch => exact ⟨rfl, hr⟩
  | outgrown =>
    exact absurd hr (HRO.out _)
/-- What Quote comes to. -/
def QuoE (s : ByteArray) (e : Ending) : Prop :=
  if errT s.data.toList ≠ 0 then e = .returned (.tuple #[.string ⟨#[]⟩, .int .i64 ((errT s.data.toList : Nat) : Int)])
  else e = .returned (.tuple #[.string ⟨(txtL quoteC s).toArray⟩, .int .i64 0])
set_option maxRecDepth 100000 in
set_option maxHeartbeats 4000000 in
theorem quote_c (s : ByteArray) (w : World) (hG : Gl w.heap.size w) (hs : s.size ≤ 1099511627776) :
    Calls Tryz.prog 16 #[.string s] w fun e w' => QuoE s e ∧ Below w.heap.size w w' := by
  have hmf : ∀ (fn : Fn) (first cap : Array Value) (w : World), (Instr.makeFunc fn first cap).run Tryz.prog w = .ok (.func fn first cap) w := fun _ _ _ _ => rfl
  obtain ⟨bp, hbp⟩ : ∃ b, w.heap.size = b := ⟨_, rfl⟩
  have hb : Below w.heap.size w (w.alloc (.cells #[.string s] 9)) := (Below.refl _ w).alloc (Nat.le_refl _) _
  have hm := World.alloc_heap_new w (.cells #[.string s] 9)
  have hsz : (w.alloc (.cells #[.string s] 9)).heap.size = bp + 1 := by rw [World.size_alloc, hbp]
  have hG1 := hG.low hb
  rw [hbp] at hm hb hG1 ⊢
  have y0 := cell_at3 (i := 0) hm rfl
  have HG := Lib.hid hG1
  have HB := Lib.hid hb
  have HM := Lib.hid hm
  clear hG hG1 hb hm
  go_enter Tryz.func16, Tryz.ntmps16
  go_wp2_with fail
  try rw [hbp]
  clear y0 hbp
  generalize (w.alloc (.cells #[.string s] 9)) = w1 at *
  refine (UCheck_c s w1 HG.out.tabs (by omega)).mono ?_
  rintro e9 w2 ⟨rfl, hb2⟩
  rw [hsz] at hb2
  obtain ⟨r, hr⟩ : ∃ r, errT s.data.toList = r := ⟨_, rfl⟩
  rw [hr]
  have hB2 : Below bp w w2 := HB.out.trans (hb2.mono (by omega))
  have hl2 : bp + 1 ≤ w2.heap.size := by have := hb2.size; omega
  have HB2 := Lib.hid hB2
  have HR := Lib.hid hr
  have HW2 := Lib.hid hb2
  clear hB2 hb2 hr
  rcases Nat.eq_zero_or_pos r with h0 | h0
  case inr =>
    have hne : (r : Int) ≠ 0 := by omega
    go_wp2_with fail
    go_ret2
    refine ⟨?_, HB2.out⟩
    unfold QuoE
    rw [HR.out, if_pos (by omega)]
    rfl
  subst h0
  have hbx := (HW2.out.block bp (by omega)).trans HM.out
  have hg2 : Gl w2.heap.size w2 := ((HG.out.up (C := bp + 1) (by omega)).low HW2.out).up (by omega)
  have hT : isT s.data.toList = true := by
    have := HR.out
    unfold errT at this
    split at this
    · assumption
    · exact absurd this (by decide)
  have hlen := txtL_len hT
  have hwc := written_c (F := plainF) (room := 9223372036854775807) (st := 0) (out := txtL quoteC s) (fn := 36) (cp := .pointer (some ⟨bp, 0, none⟩)) w2 (by omega) (by unfold txtL; exact List.cons_ne_nil _ _) (fun ar W => by kernel_rfl)
    (fun w' hP hb => quo1_c s w' hP (hg2.low (hb.below (Nat.le_refl _) fun _ _ h => h)) hb.size hT hs ((hb.block bp (by omega) (fun h => h)).trans hbx))
  obtain ⟨out, hout⟩ : ∃ out, txtL quoteC s = out := ⟨_, rfl⟩
  rw [hout] at hwc hlen
  have HOUT := Lib.hid hout
  have HWC := Lib.hid hwc
  clear hwc hout hg2 hbx hT
  go_wp2_with fail
  refine HWC.out.mono ?_
  rintro e9 w3 ⟨he, hb3⟩
  have hB3 := HB2.out.trans (hb3.mono (by omega))
  rcases he with ⟨hl, rfl⟩ | ⟨hl, rfl⟩
  case inr => omega
  have HB3 := Lib.hid hB3
  clear hB3 hb3
  go_wp2_with fail
  go_ret2
  refine ⟨?_, HB3.out⟩
  unfold QuoE
  rw [HR.out, if_neg (by omega), HOUT.out]
  rfl
end Go.Proofs.YtcanfiaooabocaaGreatDoor

namespace Go.Proofs.YtcanfiaooabocaaGreatDoor
open Go.RowKit Go.Lib

/-- A reader in block rb that goes over the octets L, at p. -/
structure REnv (B : Nat) (L : List UInt8) (A : Option Addr) (c rb : Nat) (w : World) (p : Nat) : Prop where
  box : w.heap[rb]? = some (.cells #[.slice A L.length c, .int .i64 (p : Int), .int .i64 0] 89)
  oct : ∀ k x, L[k]? = some x → ∃ g off, A = some ⟨g, off, none⟩ ∧ g < B ∧ w.cell? ⟨g, off + k, none⟩ = some (.int .u8 (x.toNat : Int))
  base : B ≤ rb
  fits : L.length ≤ 65536
  here : p ≤ L.length
  cap : L.length ≤ c
theorem REnv.lt {B : Nat} {L : List UInt8} {A : Option Addr} {c rb : Nat} {w : World} {p : Nat} (h : REnv B L A c rb w p) : rb < w.heap.size := (Array.getElem?_eq_some_iff.1 h.box).1
theorem REnv.cells {B : Nat} {L : List UInt8} {A : Option Addr} {c rb : Nat} {w : World} {p : Nat} (h : REnv B L A c rb w p) : w.cell? ⟨rb, 0, none⟩ = some (.slice A L.length c) ∧ w.cell? ⟨rb, 1, none⟩ = some (.int .i64 (p : Int)) ∧ w.cell? ⟨rb, 2, none⟩ = some (.int .i64 0) :=
  ⟨cell_at3 h.box rfl, cell_at3 h.box rfl, cell_at3 h.box rfl⟩
theorem REnv.frozen {B : Nat} {L : List UInt8} {A : Option Addr} {c rb : Nat} {w : World} {p : Nat} (h : REnv B L A c rb w p) (i : Nat) : w.frozen? ⟨rb, i, none⟩ = false := by simp [World.frozen?, h.box]
theorem REnv.stay {B : Nat} {L : List UInt8} {A : Option Addr} {c rb : Nat} {w w' : World} {p : Nat} {C : Nat → Prop} (h : REnv B L A c rb w p) (hb : But C w w') (hC : ∀ k, C k → B ≤ k ∧ k ≠ rb) : REnv B L A c rb w' p :=
  ⟨(hb.block rb h.lt (fun hc => (hC _ hc).2 rfl)).trans h.box, fun k x hk => by
    obtain ⟨g, off, hA, hg, hc⟩ := h.oct k x hk
    exact ⟨g, off, hA, hg, hb.cell_some hc (fun hc => by have := (hC _ hc).1; simp only at this; omega)⟩, h.base, h.fits, h.here, h.cap⟩
theorem REnv.to {B : Nat} {L : List UInt8} {A : Option Addr} {c rb : Nat} {w : World} {p : Nat} (h : REnv B L A c rb w p) {q : Nat} (hq : q ≤ L.length) : REnv B L A c rb (w.setCell ⟨rb, 1, none⟩ (.int .i64 (q : Int))) q :=
  ⟨by simpa using set_page (w := w) (pb := rb) (i := 1) (.int .i64 (q : Int)) h.box, fun k x hk => by
    obtain ⟨g, off, hA, hg, hc⟩ := h.oct k x hk
    refine ⟨g, off, hA, hg, ?_⟩
    have := h.base
    rw [World.cell?_of_block (Below.heap_setCell _ _ _ _ (by show g ≠ rb; omega))]
    exact hc, h.base, h.fits, hq, h.cap⟩
/-- What comes next: an octet, or 0 behind the last. -/
def nxt (L : List UInt8) (p : Nat) : UInt8 := L[p]?.getD 0
set_option maxRecDepth 100000 in
set_option maxHeartbeats 1000000 in
theorem rpeek_c {B : Nat} {L : List UInt8} {A : Option Addr} {c rb : Nat} {w : World} {p : Nat} (h : REnv B L A c rb w p) :
    Calls Tryz.prog 79 #[.pointer (some ⟨rb, 0, none⟩)] w fun e w' => e = .returned (.int .u8 ((nxt L p).toNat : Int)) ∧ But (fun _ => False) w w' := by
  have mixed : Tryz.prog.follows .mixedOrders = true := by kernel_rfl
  obtain ⟨c0, c1, -⟩ := h.cells
  rcases Nat.lt_or_ge p L.length with hp | hp
  · obtain ⟨x, hx⟩ : ∃ x, L[p]? = some x := ⟨_, List.getElem?_eq_getElem hp⟩
    obtain ⟨g, off, rfl, hg, hc⟩ := h.oct p x hx
    have hn : nxt L p = x := by unfold nxt; rw [hx]; rfl
    rw [hn]
    have hfit := h.fits
    have hcap := h.cap
    clear h hx hn
    go_enter Tryz.func79, Tryz.ntmps79
    go_upto_region 1 with fail
    go_region_o
    all_goals go_upto_region 2 with fail
    all_goals go_region_o
    all_goals go_wp2
    all_goals go_ret
    all_goals exact ⟨rfl, ((But.refl _ w).drew).drew⟩
  · have hn : nxt L p = 0 := by unfold nxt; rw [List.getElem?_eq_none hp]; rfl
    have hpe : p = L.length := Nat.le_antisymm h.here hp
    rw [hn]
    have hfit := h.fits
    subst hpe
    clear h hn hp
    go_enter Tryz.func79, Tryz.ntmps79
    go_upto_region 1 with fail
    go_region_o
    all_goals go_wp2
    all_goals go_ret
    all_goals exact ⟨rfl, (But.refl _ w).drew⟩
end Go.Proofs.YtcanfiaooabocaaGreatDoor

namespace Go.Proofs.YtcanfiaooabocaaGreatDoor
open Go.RowKit Go.Lib

theorem rHex_step {k v p : Nat} {M : List UInt8} {n q : Nat} (h : rHex (k + 1) v M p = .ok n q) : ∃ c d, M[p]? = some c ∧ hexOf c = some d ∧ rHex k (v * 16 + d) M (p + 1) = .ok n q := by
  unfold rHex rAt rPeek at h
  cases hc : M[p]? with
  | none => rw [hc] at h; cases h
  | some c =>
    rw [hc] at h
    simp only [RR.bind] at h
    cases hd : hexOf c with
    | none => rw [hd] at h; cases h
    | some d => rw [hd] at h; exact ⟨c, d, rfl, hd, h⟩
theorem hexOf_cases {c : UInt8} {d : Nat} (h : hexOf c = some d) : (48 ≤ c.toNat ∧ c.toNat ≤ 57 ∧ d + 48 = c.toNat) ∨ (97 ≤ c.toNat ∧ c.toNat ≤ 102 ∧ d + 87 = c.toNat) ∨ (65 ≤ c.toNat ∧ c.toNat ≤ 70 ∧ d + 55 = c.toNat) := by
  unfold hexOf at h
  split at h
  · rename_i h1
    simp only [Bool.and_eq_true, decide_eq_true_eq] at h1
    have g1 : 48 ≤ c.toNat := h1.1
    have g2 : c.toNat ≤ 57 := h1.2
    injection h with h; omega
  · split at h
    · rename_i h1
      simp only [Bool.and_eq_true, decide_eq_true_eq] at h1
      have g1 : 97 ≤ c.toNat := h1.1
      have g2 : c.toNat ≤ 102 := h1.2
      injection h with h; omega
    · split at h
      · rename_i h1
        simp only [Bool.and_eq_true, decide_eq_true_eq] at h1
        have g1 : 65 ≤ c.toNat := h1.1
        have g2 : c.toNat ≤ 70 := h1.2
        injection h with h; omega
      · cases h
set_option maxRecDepth 100000 in
set_option maxHeartbeats 2000000 in
theorem rhex_c {M : List UInt8} {A : Option Addr} {cp i n : Nat} (w : World) (hc : ∀ j x, M[j]? = some x → ∃ g off, A = some ⟨g, off, none⟩ ∧ w.cell? ⟨g, off + j, none⟩ = some (.int .u8 (x.toNat : Int))) (hl : M.length ≤ 65536) (hi : i ≤ 65536) (h : rHex 4 0 M i = .ok n (i + 4)) :
    Calls Tryz.prog 151 #[.slice A M.length cp, .int .i64 (i : Int)] w fun e w' => e = .returned (.tuple #[.int .i64 (n : Int), .int .i64 4]) ∧ w = w' := by
  have HC := Lib.hid hc
  clear hc
  go_enter Tryz.func151, Tryz.ntmps151
  have h0 : Hid (rHex (4 - 0) 0 M (i + 0) = .ok n (i + 4)) := h
  clear h
  go_wp2_with fail
  go_loop [6, 7] (fun nv kv => ∃ k v : Nat, k ≤ 4 ∧ v < 16 ^ k ∧ nv = .int .i64 (v : Int) ∧ kv = .int .i64 (k : Int) ∧ Hid (rHex (4 - k) v M (i + k) = .ok n (i + 4))) (fun _ kv => 4 - (RowKit.intOf kv).toNat)
  case atStart => exact ⟨0, 0, by omega, by decide, rfl, rfl, h0⟩
  case round =>
    clear h0
    obtain ⟨k, v, hk, hv, rfl, rfl, hr⟩ := hrel
    by_cases hk4 : k = 4
    · subst hk4
      have hn : v = n := by
        have h9 := hr.out
        unfold rHex rPure at h9
        injection h9
      subst hn
      clear hr
      go_wp2
      go_ret2
      exact ⟨rfl, rfl⟩
    · obtain ⟨j, hj⟩ : ∃ j, 4 - k = j + 1 := ⟨3 - k, by omega⟩
      have hr2 := hr.out
      rw [hj] at hr2
      obtain ⟨c, d, h1, h2, h3⟩ := rHex_step hr2
      have hlt : i + k < M.length := (List.getElem?_eq_some_iff.1 h1).1
      obtain ⟨g, off, rfl, hcell⟩ := HC.out _ _ h1
      have hcs := hexOf_cases h2
      have hv9 : v < 4096 := by
        have : 16 ^ k ≤ 16 ^ 3 := Nat.pow_le_pow_right (by omega) (by omega)
        omega
      have hnx : Hid (rHex (4 - (k + 1)) (v * 16 + d) M (i + (k + 1)) = .ok n (i + 4)) := by
        show _ = _
        rw [show 4 - (k + 1) = j by omega]
        exact h3
      have hd16 : d < 16 := by rcases hcs with h | h | h <;> omega
      have hp : v * 16 + d < 16 ^ (k + 1) := by rw [Nat.pow_succ]; omega
      have hcx : w.cell? ⟨g, off + (i + k), none⟩ = some (.int .u8 (c.toNat : Int)) := hcell
      have hki : k < 4 := by omega
      clear hr hr2 h1 h2 h3 hcell hj
      rcases hcs with ⟨a1, a2, a3⟩ | ⟨a1, a2, a3⟩ | ⟨a1, a2, a3⟩
      all_goals
        go_wp2
        exact ⟨⟨k + 1, v * 16 + d, by omega, hp, by congr 1; omega, by go_num, hnx⟩, by simp [RowKit.intOf]; omega⟩
end Go.Proofs.YtcanfiaooabocaaGreatDoor

namespace Go.Proofs.YtcanfiaooabocaaGreatDoor
open Go.RowKit Go.Lib

set_option maxRecDepth 100000 in
set_option maxHeartbeats 2000000 in
theorem runi_c {B : Nat} {L : List UInt8} {A : Option Addr} {c rb : Nat} {w : World} {p n : Nat} (E : REnv B L A c rb w p) (h : rHex 4 0 L (p + 2) = .ok n (p + 6)) (hn : n < 55296 ∨ 57343 < n) (hn2 : n < 65536) (hq : p + 6 ≤ L.length) :
    Calls Tryz.prog 138 #[.pointer (some ⟨rb, 0, none⟩)] w fun e w' => ∃ g m, e = .returned (.slice (some ⟨g, 0, none⟩) m m) ∧ w.heap.size ≤ g ∧ RowV w' w.heap.size 5 (some ⟨g, 0, none⟩) m m (bs8 (encodeRune (n : Int))) ∧ REnv B L A c rb w' (p + 6) ∧ But (fun k => k = rb) w w' := by
  obtain ⟨c0, c1, c2⟩ := E.cells
  have f1 := E.frozen 1
  have hfit := E.fits
  have hcap := E.cap
  have hx := rhex_c (cp := c) w (fun j x hx => by obtain ⟨g, off, h1, h2, h3⟩ := E.oct j x hx; exact ⟨g, off, h1, h3⟩) hfit (by omega) (show rHex 4 0 L (p + 2) = .ok n (p + 2 + 4) from h)
  have HX := Lib.hid hx
  have HE := Lib.hid E
  have hch : isCh (n : Int) := by unfold isCh; omega
  clear E h hx
  go_enter Tryz.func138, Tryz.ntmps138
  go_wp2_with fail
  refine HX.out.mono ?_
  rintro e9 w1 ⟨rfl, rfl⟩
  have hE2 := HE.out.to hq
  have hb2 : But (fun k => k = rb) w (w.setCell ⟨rb, 1, none⟩ (.int .i64 ((p + 6 : Nat) : Int))) := But.setCell (C := fun k => k = rb) (p := ⟨rb, 1, none⟩) (But.refl _ _) (.inl rfl) _
  have hs2 : (w.setCell ⟨rb, 1, none⟩ (.int .i64 ((p + 6 : Nat) : Int))).heap.size = w.heap.size := by simp [World.setCell]
  have e6 : ((p + 6 : Nat) : Int) = (p : Int) + 6 := by omega
  rw [e6] at hE2 hb2 hs2
  have HE2 := Lib.hid hE2
  have HB2 := Lib.hid hb2
  clear hE2 hb2 e6
  rcases hn with hn | hn
  all_goals
    go_wp2_with fail
    generalize (w.setCell ⟨rb, 1, none⟩ (.int .i64 ((p : Int) + 6))) = w2 at *
    refine (Octets_c (n : Int) w2 hch).mono ?_
    rintro e9 w3 ⟨m, rfl, hrow, hb3⟩
    have HROW := Lib.hid hrow
    have HB3 := Lib.hid hb3
    clear hrow hb3
    go_wp2_with fail
    go_ret
    rw [hs2] at HROW
    have hlt := HE2.out.lt
    refine ⟨_, m, rfl, by omega, HROW.out, HE2.out.stay (C := fun _ => False) (But.of HB3.out) (fun k h => h.elim), HB2.out.trans (But.of HB3.out)⟩
end Go.Proofs.YtcanfiaooabocaaGreatDoor
