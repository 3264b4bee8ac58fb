/-
  The reference: Replace.
-/
import Derived.Test.YtdacdppmgcaioaaDoorETrr
import Derived.Test.YtdacdppmgcaioaaDoorETrg
set_option linter.unusedVariables false
set_option linter.unusedSimpArgs false
namespace Go.Proofs.YtdacdppmgcaioaaDoor
open Go.RowKit Go.Lib

theorem repl_nil (old by' : List UInt8) : replT old by' [] = [] := by
  have h : nxOf old [] = none := by
    cases h : nxOf old [] with
    | none => rfl
    | some q => obtain ⟨a, z⟩ := q; have := nxOf_goes _ _ _ _ h; simp at this; omega
  unfold replT
  rw [cutP_none h]; rfl
theorem repl_hit {old by' M : List UInt8} (hne : old ≠ []) (hp : Lib.hasPrefix M old = true) : replT old by' M = by' ++ replT old by' (M.drop old.length) := by
  have hix : Lib.index M old = 0 := by
    cases M with
    | nil =>
      unfold Lib.hasPrefix at hp
      cases old with
      | nil => exact absurd rfl hne
      | cons a t => simp at hp
    | cons b l =>
      unfold Lib.index
      unfold Lib.hasPrefix at hp
      rw [if_pos hp]
  have h : nxOf old M = some (0, old.length) := by
    unfold nxOf
    rw [if_neg (by rw [hix]; rintro (h | h); exact hne h; omega), hix]
    rfl
  unfold replT
  rw [cutP_some (nxOf_goes old) h, joinB_cons (cutP_ne _ _), Nat.zero_add]
  simp
theorem join_head (sep : List UInt8) (b : UInt8) (p : List UInt8) (r : List (List UInt8)) : joinB sep ((b :: p) :: r) = b :: joinB sep (p :: r) := by
  cases r with
  | nil => rfl
  | cons q r => rfl
theorem repl_miss {old by' : List UInt8} {b : UInt8} {M : List UInt8} (h : old = [] ∨ Lib.hasPrefix (b :: M) old = false) : replT old by' (b :: M) = b :: replT old by' M := by
  unfold replT
  by_cases hne : old = []
  · have h1 : ∀ L, nxOf old L = none := fun L => if_pos (.inl hne)
    rw [cutP_none (h1 _), cutP_none (h1 _)]; rfl
  · have hp := h.resolve_left hne
    have hix : Lib.index (b :: M) old = if Lib.index M old == -1 then -1 else Lib.index M old + 1 := by
      show (if old.isPrefixOf (b :: M) then (0 : Int) else _) = _
      unfold Lib.hasPrefix at hp
      rw [if_neg (by rw [hp]; decide)]
    rcases index_cases old hne M with h1 | ⟨i, h1, h2, h3⟩
    · rw [h1, if_pos (by decide)] at hix
      have e1 : nxOf old M = none := if_pos (.inr (by rw [h1]; decide))
      have e2 : nxOf old (b :: M) = none := if_pos (.inr (by rw [hix]; decide))
      rw [cutP_none e1, cutP_none e2]; rfl
    · rw [h1, if_neg (by simp)] at hix
      have e1 : nxOf old M = some (i, old.length) := by
        unfold nxOf
        rw [if_neg (by rw [h1]; rintro (h | h); exact hne h; omega), h1]
        rfl
      have e2 : nxOf old (b :: M) = some (i + 1, old.length) := by
        unfold nxOf
        rw [if_neg (by rw [hix]; rintro (h | h); exact hne h; omega), hix]
        rfl
      rw [cutP_some (nxOf_goes old) e1, cutP_some (nxOf_goes old) e2, show i + 1 + old.length = (i + old.length) + 1 by omega, List.drop_succ_cons, List.take_succ_cons, join_head]
theorem tell_more {out more : List UInt8} (h : 16384 < out.length) : tell out = tell (out ++ more) := by
  rw [tell_no h, tell_no (by rw [List.length_append]; omega)]
theorem drop_at {s : ByteArray} {i : Nat} (h : i < s.size) : s.data.toList.drop i = (s[i]'h) :: s.data.toList.drop (i + 1) := by
  have h2 : i < s.data.toList.length := by rw [← sizeT_list]; exact h
  rw [List.drop_eq_getElem_cons h2]
  congr 1
theorem rChecks3_c (s t u : ByteArray) (w : World) (hs : s.size ≤ 140737488355328) (ht : t.size ≤ 140737488355328) (hu : u.size ≤ 140737488355328) :
    Calls Tryd.prog 41 #[.slice (some ⟨w.heap.size, 0, none⟩) 3 3] (three w s t u) fun e w' => e = .returned (.int .i64 (errX [s, t, u] : Int)) ∧ Below w.heap.size w w' := by
  have h := rChecks_c (c := 3) (three w s t u) (rdx3 w s t u) (by intro x hx; simp at hx; rcases hx with rfl | rfl | rfl <;> assumption) (by simp)
  refine h.mono fun e w' ⟨he, hb⟩ => ⟨he, ?_⟩
  have h1 : Below w.heap.size w (three w s t u) := (Below.refl _ w).alloc (Nat.le_refl _) _
  exact h1.trans (hb.mono (by rw [World.size_alloc]; omega))
theorem row_grb {w : World} {B n k cap : Nat} {ao : Option Addr} {xs : List Value} {e : TypeId} (h : w.ownsRow B e 1 (.slice ao k cap) n xs) : ∀ g, (Value.slice ao k cap).ownBlock = some g → B ≤ g := fun g e => by
  rcases h.2 with ⟨h, _⟩ | ⟨g2, cap, cur, h, e2, e3, _⟩
  · rw [h] at e; simp [Value.ownBlock] at e
  · rw [h] at e; simp only [Value.ownBlock, Option.some.injEq] at e
    omega
set_option maxHeartbeats 8000000 in
set_option maxRecDepth 100000 in
theorem rReplace_c (s t u : ByteArray) (w : World) (hs : s.size ≤ 1048576) (ht : t.size ≤ 1048576) (hu : u.size ≤ 1048576) :
    Calls Tryd.prog 33 #[.string s, .string t, .string u] w fun e w' => e = .returned (.tuple #[.string (wrote [s, t, u] (replT t.data.toList u.data.toList s.data.toList)).1, .int .i64 (wrote [s, t, u] (replT t.data.toList u.data.toList s.data.toList)).2]) ∧ Below w.heap.size w w' := by
  obtain ⟨i0, hi, hz0, hz1, hz2⟩ := info_parts infoU8
  have hck := rChecks3_c s t u w (by omega) (by omega) (by omega)
  obtain ⟨E, hE⟩ : ∃ E, errX [s, t, u] = E := ⟨_, rfl⟩
  have hc := errX_cases [s, t, u]
  rw [hE] at hck hc
  have HC := Lib.hid hck
  clear hck
  rcases hc with rfl | rfl
  · rw [wrote_ok hE]
    obtain ⟨B, hB⟩ : ∃ B, w.heap.size = B := ⟨_, rfl⟩
    have HB := Lib.hid hB
    obtain ⟨total, htot⟩ : ∃ T, replT t.data.toList u.data.toList s.data.toList = T := ⟨_, rfl⟩
    rw [htot]
    have HTO := Lib.hid htot
    obtain ⟨RR, hRR⟩ : ∃ RR, tell total = RR := ⟨_, rfl⟩
    rw [hRR]
    have HRR := Lib.hid hRR
    clear hE hB hRR htot
    go_enter Tryd.func33, Tryd.ntmps33
    go_wp2_with fail
    refine HC.out.mono ?_
    rintro e w1 ⟨rfl, hb1⟩
    rw [HB.out] at hb1 ⊢
    have HB1 := Lib.hid hb1
    have hs1 : B ≤ w1.heap.size := by have := hb1.size; rw [HB.out] at this; exact this
    clear hb1
    go_wp2_with fail
    go_loopw [9, 10] (fun v0 iv wr => ∃ (v : Value) (i k : Nat) (out : List UInt8), v = v0 ∧ iv = .int .i64 (i : Int) ∧ i ≤ s.size ∧ Hid (out.length = k) ∧ Hid (out ++ replT t.data.toList u.data.toList (s.data.toList.drop i) = total) ∧ Hid (wr.ownsRow B 5 1 v k (byteCells out)) ∧ Hid (Below B w wr) ∧ Hid (B ≤ wr.heap.size)) (fun _ iv _ => s.size - (RowKit.intOf iv).toNat)
    case atStart => exact ⟨_, 0, 0, [], rfl, rfl, Nat.zero_le _, rfl, by show _ = _; rw [List.drop_zero, HTO.out]; rfl, ⟨rfl, .inl ⟨rfl, rfl⟩⟩, HB1.out, hs1⟩
    case round =>
      obtain ⟨v, i, k, out, rfl, rfl, hin, hk, hout, hrow, hbel, hsz⟩ := hrel
      obtain ⟨ao, cap, rfl⟩ : ∃ ao cap, v = .slice ao k cap := by
        rcases hrow.out.2 with ⟨hv, h0⟩ | ⟨g, cap, cur, hv, _⟩
        · exact ⟨none, 0, by rw [hv, h0]⟩
        · exact ⟨_, _, hv⟩
      have hgrb := row_grb hrow.out
      by_cases hgo : i < s.size ∧ k ≤ 16384
      · obtain ⟨g1, g3⟩ := hgo
        have d1 : decide ((i : Int) < (s.size : Int)) = true := decide_eq_true (by omega)
        have d3 : decide ((k : Int) ≤ 16384) = true := decide_eq_true (by omega)
        have hi0 : (0 : Int) ≤ (i : Int) := by omega
        have hit : ((i : Int)).toNat = i := by omega
        have hilt : (i : Int) < (s.size : Int) := by omega
        have hiw : IntKind.i64.wrap ((i : Int) + 1) = (i : Int) + 1 := IntWalk.i64_in _ (by omega)
        have hi2 : i ≤ s.size := hin
        have hdr := drop_at g1
        obtain ⟨x, hx⟩ : ∃ x, s[i]'g1 = x := ⟨_, rfl⟩
        have hsx : ∀ h : i < s.size, s[i]'h = x := fun _ => hx
        rw [hx] at hdr
        have HK := Lib.hid hk.out
        have HO := Lib.hid hout.out
        have HRW := Lib.hid hrow.out
        have HBE := Lib.hid hbel.out
        have HSZ := Lib.hid hsz.out
        have HDR := Lib.hid hdr
        clear hk hrow hbel hsz hout hdr hx
        -- a round that takes one octet
        by_cases hhit : t ≠ ⟨#[]⟩ ∧ Lib.hasPrefix (s.data.toList.drop i) t.data.toList = true
        · obtain ⟨hte, hpf⟩ := hhit
          have hteb : t.toList.isEmpty = false := ne_emptyT hte
          have hbg := begins_c (s.extract i s.size) t wr (by rw [sizeT_list, ext_drop, List.length_drop, ← sizeT_list]; omega)
          rw [ext_drop, hpf] at hbg
          have hle : i + t.size ≤ s.size := by
            unfold Lib.hasPrefix at hpf
            have := (List.isPrefixOf_iff_prefix.1 hpf).length_le
            rw [List.length_drop, ← sizeT_list, ← sizeT_list] at this
            omega
          have hiw2 : IntKind.i64.wrap ((i : Int) + (t.size : Int)) = ((i + t.size : Nat) : Int) := by rw [IntWalk.i64_in _ (by omega)]; omega
          have hrp := repl_hit (by' := u.data.toList) (toList_ne hte) hpf
          have htp : 0 < t.size := by
            rcases Nat.eq_zero_or_pos t.size with h | h
            · exact absurd (List.length_eq_zero_iff.1 (by rw [← sizeT_list]; exact h)) (toList_ne hte)
            · exact h
          rw [List.drop_drop, ← sizeT_list] at hrp
          have HBG := Lib.hid hbg
          have HRP := Lib.hid hrp
          clear hbg hrp hpf hte
          go_wp2_with fail
          refine HBG.out.mono ?_
          rintro e w2 ⟨rfl, rfl⟩
          go_wp2_with (at_builtin; refine Lib.wpList_append_own_string _ rfl (.tmp 37) (.tmp 38) 62 9 rfl B 5 i0 Tryd.underlying62 Tryd.underlying9 hi hz0 hz1 hz2 _ k (byteCells out) rfl HRW.out u rfl (by unfold maxLen; omega) (by omega) HSZ.out ?_; intro v1 w4 hown1 hg1 _)
          go_roundw
          case rel =>
            have hbel4 : Below B w w4 := HBE.out.grown hg1 HSZ.out (fun k hk => hgrb k hk)
            refine ⟨v1, i + t.size, k + u.size, out ++ u.data.toList, rfl, rfl, hle, ?_, ?_, ?_, hbel4, by show _ ≤ _; have := hg1.size; have := HSZ.out; omega⟩
            · show _ = _
              rw [List.length_append, HK.out, ← sizeT_list]
            · show _ = _
              rw [List.append_assoc, ← HO.out, HRP.out]
            · show _ ∧ _
              rw [byteCells_appT, ← strCells_bytesT]
              exact hown1
          case measure => simp [RowKit.intOf]; omega
        · have hro : ∀ o, (wr.alloc o).ownsRow B 5 1 (.slice ao k cap) k (byteCells out) := fun o => row_stayT HRW.out (fun g vs hg _ => Below.heap_alloc _ _ _ (Array.getElem?_eq_some_iff.1 hg).1)
          have hszw := HSZ.out
          by_cases hte : t = ⟨#[]⟩
          · have hrp : replT t.data.toList u.data.toList (x :: s.data.toList.drop (i + 1)) = x :: replT t.data.toList u.data.toList (s.data.toList.drop (i + 1)) := repl_miss (.inl (by rw [hte]))
            have HRP := Lib.hid hrp
            have hteb : t.toList.isEmpty = true := by rw [hte, ← decide_eq_emptyBytes]; exact decide_eq_true rfl
            clear hrp hhit hte
            go_wp2_with (at_builtin; refine wpList_append_own_at _ rfl (.tmp 44) (.tmp 48) _ rfl B 5 i0 (.int .u8 0) 1 1 Tryd.underlying62 hi hz0 hz1 hz2 rfl (by decide) _ k (byteCells out) rfl (hro _) ⟨wr.heap.size, 0, none⟩ 1 1 [.int .u8 (x.toNat : Int)] rfl rfl (cell_one_new _ _ _) (by simp [Value.oneCell']) (by unfold maxLen; omega) (by omega) (by simp; omega) ?_; intro v1 w4 hown1 hg1 _ hat1)
            go_roundw
            case rel =>
              have hbel4 : Below B w w4 := (HBE.out.alloc HSZ.out (.cells #[.int .u8 (x.toNat : Int)] 5)).grown hg1 (by have := HSZ.out; simp; omega) (fun k hk => hgrb k hk)
              refine ⟨v1, i + 1, k + 1, out ++ [x], rfl, by go_num, by omega, ?_, ?_, ?_, hbel4, by show _ ≤ _; have h9 := hg1.size; rw [World.size_alloc] at h9; have := HSZ.out; omega⟩
              · show _ = _
                rw [List.length_append, HK.out]; rfl
              · show _ = _
                rw [List.append_assoc, ← HO.out, HDR.out, HRP.out]; rfl
              · show _ ∧ _
                rw [byteCells_appT]
                exact hown1
            case measure => simp [RowKit.intOf]; omega

          · have hpf : Lib.hasPrefix (s.data.toList.drop i) t.data.toList = false := by
              cases h : Lib.hasPrefix (s.data.toList.drop i) t.data.toList with
              | false => rfl
              | true => exact absurd ⟨hte, h⟩ hhit
            have hteb : t.toList.isEmpty = false := ne_emptyT hte
            have hbg := begins_c (s.extract i s.size) t wr (by rw [sizeT_list, ext_drop, List.length_drop, ← sizeT_list]; omega)
            rw [ext_drop, hpf] at hbg
            rw [HDR.out] at hpf
            have hrp : replT t.data.toList u.data.toList (x :: s.data.toList.drop (i + 1)) = x :: replT t.data.toList u.data.toList (s.data.toList.drop (i + 1)) := repl_miss (.inr hpf)
            have HRP := Lib.hid hrp
            have HBG := Lib.hid hbg
            clear hrp hhit hte hpf hbg
            go_wp2_with fail
            refine HBG.out.mono ?_
            rintro e w2 ⟨rfl, hw2⟩
            have hw2 := hw2.symm
            subst hw2
            go_wp2_with (at_builtin; refine wpList_append_own_at _ rfl (.tmp 44) (.tmp 48) _ rfl B 5 i0 (.int .u8 0) 1 1 Tryd.underlying62 hi hz0 hz1 hz2 rfl (by decide) _ k (byteCells out) rfl (hro _) ⟨wr.heap.size, 0, none⟩ 1 1 [.int .u8 (x.toNat : Int)] rfl rfl (cell_one_new _ _ _) (by simp [Value.oneCell']) (by unfold maxLen; omega) (by omega) (by simp; omega) ?_; intro v1 w4 hown1 hg1 _ hat1)
            go_roundw
            case rel =>
              have hbel4 : Below B w w4 := (HBE.out.alloc HSZ.out (.cells #[.int .u8 (x.toNat : Int)] 5)).grown hg1 (by have := HSZ.out; simp; omega) (fun k hk => hgrb k hk)
              refine ⟨v1, i + 1, k + 1, out ++ [x], rfl, by go_num, by omega, ?_, ?_, ?_, hbel4, by show _ ≤ _; have h9 := hg1.size; rw [World.size_alloc] at h9; have := HSZ.out; omega⟩
              · show _ = _
                rw [List.length_append, HK.out]; rfl
              · show _ = _
                rw [List.append_assoc, ← HO.out, HDR.out, HRP.out]; rfl
              · show _ ∧ _
                rw [byteCells_appT]
                exact hown1
            case measure => simp [RowKit.intOf]; omega
      · have hfin : tell out = RR := by
          rw [← HRR.out]
          by_cases g1 : i < s.size
          · rw [← hout.out]
            exact tell_more (by rw [hk.out]; omega)
          · have hd : s.data.toList.drop i = [] := List.drop_of_length_le (by rw [← sizeT_list]; omega)
            have := hout.out
            rw [hd, repl_nil, List.append_nil] at this
            rw [this]
        have hwh := whole_c (c := cap) wr (rdo_own hrow.out hk.out.symm)
        rw [hfin, hk.out] at hwh
        have HW := Lib.hid hwh
        have HBE := Lib.hid hbel.out
        clear hwh hk hrow hbel hsz hfin hout
        by_cases g1 : i < s.size
        · have d1 : decide ((i : Int) < (s.size : Int)) = true := decide_eq_true (by omega)
          have d3 : decide ((k : Int) ≤ 16384) = false := decide_eq_false (by omega)
          go_wp2_with fail
          refine HW.out.mono ?_
          rintro e w5 ⟨rfl, rfl⟩
          go_wp2_with fail
          go_ret2
          exact ⟨rfl, by rw [HB.out]; exact HBE.out⟩
        · have d1 : decide ((i : Int) < (s.size : Int)) = false := decide_eq_false (by omega)
          go_wp2_with fail
          refine HW.out.mono ?_
          rintro e w5 ⟨rfl, rfl⟩
          go_wp2_with fail
          go_ret2
          exact ⟨rfl, by rw [HB.out]; exact HBE.out⟩
  · rw [wrote_no hE]
    clear hE
    go_enter Tryd.func33, Tryd.ntmps33
    go_wp2_with fail
    refine HC.out.mono ?_
    rintro e w1 ⟨rfl, hb1⟩
    have HB := Lib.hid hb1
    clear hb1
    go_wp2_with fail
    go_ret2
    exact ⟨rfl, HB.out⟩
end Go.Proofs.YtdacdppmgcaioaaDoor
