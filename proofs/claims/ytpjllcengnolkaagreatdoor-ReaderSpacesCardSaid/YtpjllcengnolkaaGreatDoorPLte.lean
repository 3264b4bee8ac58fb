/-
  Contract of the scan's text.
-/
import Derived.Test.YtpjllcengnolkaaGreatDoorPLch
set_option linter.unusedVariables false
set_option linter.unusedSimpArgs false
namespace Go.Proofs.YtpjllcengnolkaaGreatDoor
open Go.RowKit Go.Lib
variable {B : Nat} {L : List UInt8} {A : Option Addr} {c sb : Nat}

theorem enc_le4 (x : Int) : (encodeRune x).length ≤ 4 := by
  unfold encodeRune encodeRuneZ
  rw [List.length_map]
  repeat' split
  all_goals simp
theorem bldKeep {T e b0 b : Nat} {bs : List Value} {C : Nat → Prop} {w w' : World} (h : IsBuilderF T e b0 b bs w) (hb : But C w w') (hC : ∀ k, C k → k < b0) : IsBuilderF T e b0 b bs w' := by
  have key : ∀ p, BuilderAtF T e b0 b p bs w → BuilderAtF T e b0 b p bs w' := by
    rintro p ⟨hB, v, hv, ⟨h1, h2⟩, h3⟩
    have keep : ∀ k o, b0 ≤ k → w.heap[k]? = some o → w'.heap[k]? = some o := fun k o hk ho => by
      have hlt : k < w.heap.size := (Array.getElem?_eq_some_iff.1 ho).1
      rw [hb.block k hlt (fun hc => by have := hC k hc; omega)]; exact ho
    refine ⟨hB, v, keep _ _ hB hv, ⟨h1, ?_⟩, h3⟩
    rcases h2 with h2 | ⟨g, cap, cur, fz, e1, e2, e3, e4⟩
    · exact .inl h2
    · exact .inr ⟨g, cap, cur, fz, e1, e2, keep _ _ e2 e3, e4⟩
  rcases h with h | h
  · exact .inl (key _ h)
  · exact .inr (key _ h)
abbrev rT : ByteArray → World → Value → Prop := fun t _ v => v = .string t

set_option maxRecDepth 100000 in
set_option maxHeartbeats 1000000 in
theorem text_c {w : World} {p o : Nat} (E : Env B L A c sb w p o) (hcap : L.length ≤ c) (hpl : p < L.length) :
    Calls Tryz.prog 39 #[ptr sb] w (Po B L A c sb (fun k => k = sb) o rT w (rText L p)) := by
  have hpn : ∀ (T : Nat) (v : Value) (w : World), (Instr.panic (.iface T v)).run Tryz.prog w = .halt (.panic (.iface T v)) w := fun _ _ _ => rfl
  obtain ⟨R, hR⟩ : ∃ R, rText L p = R := ⟨_, rfl⟩
  rw [hR]
  unfold rText at hR
  obtain ⟨RC, hRC⟩ : ∃ RC, rChars fuelR [] L (p + 1) = RC := ⟨_, rfl⟩
  rw [hRC] at hR
  have hfit := E.fits
  have hlt := E.lt
  have hbase := E.base
  have hpw : IntKind.i64.wrap ((p : Int) + 1) = (p : Int) + 1 := IntWalk.i64_in _ (by omega)
  obtain ⟨c0, c1, c2⟩ := E.cells
  have f1 := E.frozen 1 (by omega)
  obtain ⟨ob, hob⟩ : ∃ ob, w.heap.size = ob := ⟨_, rfl⟩
  have hb0 := ((But.refl (fun k => k = sb) w).inc (.int .i64 ((p : Int) + 1))).alloc (.cells #[.pointer none, .slice none 0 0] 88)
  have hE0 := (E.inc hpl).stay ((But.refl (fun _ => False) _).alloc (.cells #[.pointer none, .slice none 0 0] 88)) (fun _ _ h => h) (fun h => h)
  have hnew := World.alloc_heap_new (w.setCell ⟨sb, 1, none⟩ (.int .i64 ((p : Int) + 1))) (.cells #[.pointer none, .slice none 0 0] 88)
  have hsz0 : (w.setCell ⟨sb, 1, none⟩ (.int .i64 ((p : Int) + 1))).heap.size = ob := by rw [← hob]; simp [World.setCell]
  have hsz1 : ob < ((w.setCell ⟨sb, 1, none⟩ (.int .i64 ((p : Int) + 1))).alloc (.cells #[.pointer none, .slice none 0 0] 88)).heap.size := by simp; omega
  rw [hsz0] at hnew
  have HR := Lib.hid hR
  have HRC := Lib.hid hRC
  have HOB := Lib.hid hob
  have HLT := Lib.hid hlt
  clear E hR hRC hlt
  go_enter Tryz.func39, Tryz.ntmps39
  go_wp2_with fail
  clear c0 c1 c2 f1
  try rw [hob]
  clear hob
  generalize ((w.setCell ⟨sb, 1, none⟩ (.int .i64 ((p : Int) + 1))).alloc (.cells #[.pointer none, .slice none 0 0] 88)) = w0 at *
  have hI0 : IsBuilderF 88 5 ob ob (byteCells []) w0 := .inl ⟨Nat.le_refl _, _, hnew, World.ownsRowF_nil _ _ _ _, by simp [Value.ownBlock]⟩
  go_loopw [17] (fun _ wr => ∃ (m q : Nat) (acc : List UInt8), Hid (rChars m acc L q = RC) ∧ Hid (70000 ≤ m + q) ∧ Hid (acc.length ≤ 4 * q) ∧ Hid (Env B L A c sb wr q o) ∧ Hid (But (fun k => k = sb) w wr) ∧ Hid (IsBuilderF 88 5 ob ob (byteCells acc) wr)) (fun _ wr => L.length - atOf sb wr)
  case atStart => exact ⟨fuelR, p + 1, [], HRC, by show 70000 ≤ _; unfold fuelR; omega, by show _ ≤ _; simp, hE0, hb0, hI0⟩
  case round =>
    obtain ⟨m, q, acc, hc, hf, hal, hE, hB, hI⟩ := hrel
    have hat := hE.out.at_of
    have hqh := hE.out.here
    obtain ⟨m', rfl⟩ : ∃ m', m = m' + 1 := ⟨m - 1, by have := hf.out; omega⟩
    have hc1 := hc.out
    unfold rChars rAt at hc1
    clear hc HRC hnew hsz1 hsz0 hb0 hE0 hI0
    go_wp2_with fail
    refine (peek_c hE.out).mono ?_
    intro e w1 hp
    cases hr : rPeek L q with
    | bad q2 x =>
      rw [hr] at hp hc1
      obtain ⟨rfl, hb⟩ := hp
      go_wp2_with fail
      have h1 : RR.bad q2 x = RC := hc1
      rw [← (show (RR.bad q2 x : RR ByteArray) = R by rw [← HR.out, ← h1]; rfl)]
      exact ⟨rfl, rfl, hB.out.trans hb.no⟩
    | ok x q2 =>
      obtain ⟨rfl, hx, hq⟩ := peek_ok hr
      rw [hr] at hp hc1
      obtain ⟨⟨v, rfl, rfl⟩, hE1, hb⟩ := hp
      obtain ⟨c0, c1, c2⟩ := hE1.cells
      have f1 := hE1.frozen 1 (by omega)
      have HE1 := Lib.hid hE1
      have HB1 := Lib.hid (hB.out.trans (hb.no (C := fun k => k = sb)))
      have HI1 := Lib.hid (bldKeep hI.out hb (fun k h => h.elim))
      clear hE1 hb hE hB hI hr
      simp only [RR.bind] at hc1
      have hi : ((x.toNat : Int) == 34) = (x == 34) := u8I_eq x 34
      have hqw : IntKind.i64.wrap ((q : Int) + 1) = (q : Int) + 1 := IntWalk.i64_in _ (by omega)
      cases hg : (x == 34)
      · rw [hg] at hi
        simp only [hg, Bool.false_eq_true, if_false] at hc1
        clear hg
        go_wp2_with fail
        refine (character_c HE1.out hcap).mono ?_
        intro e w2 hp
        cases hr : rChar L q with
        | bad q2 y =>
          rw [hr] at hp hc1
          obtain ⟨rfl, hb⟩ := hp
          go_wp2_with fail
          have h1 : RR.bad q2 y = RC := hc1
          rw [← (show (RR.bad q2 y : RR ByteArray) = R by rw [← HR.out, ← h1]; rfl)]
          exact ⟨rfl, rfl, HB1.out.trans hb⟩
        | ok z q2 =>
          have hup := rChar_up hr
          have hch := Inv.char L q z q2 hr
          rw [hr] at hp hc1
          obtain ⟨⟨v, rfl, rfl⟩, hE2, hb⟩ := hp
          have HE2 := Lib.hid hE2
          have HB2 := Lib.hid (HB1.out.trans hb)
          have HI2 := Lib.hid (bldKeep HI1.out hb (fun k h => by have := HLT.out; have := HOB.out; omega))
          have hq2 := hE2.here
          have HC1 := Lib.hid (show rChars m' (acc ++ encodeRune z) L q2 = RC from hc1)
          have hz : -2147483648 ≤ z ∧ z ≤ 2147483647 := by unfold isCh at hch; omega
          clear hE2 hb hr hc1 c0 c1 c2 f1 hch
          go_wp2_with fail
          have hsz2 : ob ≤ w2.heap.size := by have := HB2.out.size; have := HOB.out; omega
          refine (WriteRune_c ob ob (byteCells acc) z hz.1 hz.2 w2 HI2.out (by rw [byteCells_length]; have := hal.out; omega) hsz2).mono ?_
          rintro e w3 ⟨rfl, hbd, hbl, -⟩
          have hI3 : IsBuilderF 88 5 ob ob (byteCells (acc ++ encodeRune z)) w3 := by
            have h1 : byteCells (acc ++ encodeRune z) = byteCells acc ++ runeCells z := by rw [← byteCells_encodeRune]; unfold byteCells; rw [List.map_append]
            rw [h1]; exact .inr hbd
          have hb3 : But (fun k => k = sb) w w3 := ⟨hbl.os.trans HB2.out.os, hbl.tape.trans HB2.out.tape, hbl.output.trans HB2.out.output, Nat.le_trans HB2.out.size hbl.size, fun k hk hc => (hbl.block k (by have := HOB.out; omega)).trans (HB2.out.block k hk hc)⟩
          have hE3 : Env B L A c sb w3 q2 o := by
            have hbB : But (fun k => ob ≤ k) w2 w3 := ⟨hbl.os, hbl.tape, hbl.output, hbl.size, fun k hk hc => hbl.block k (by omega)⟩
            exact HE2.out.stay hbB (fun k hk h => by have := HOB.out; have := HLT.out; omega) (fun h => by have := HOB.out; have := HLT.out; omega)
          clear hbd hbl
          go_wp2_with fail
          go_roundw
          case rel => exact ⟨m', q2, acc ++ encodeRune z, HC1, by have := hf.out; show _ ≤ _; omega, by have := hal.out; have := enc_le4 z; show _ ≤ _; rw [List.length_append]; omega, hE3, hb3, hI3⟩
          case measure => rw [hE3.at_of, hat]; omega
      · rw [hg] at hi
        simp only [hg, if_true] at hc1
        clear hg
        have h1 : RR.ok acc (q + 1) = RC := hc1
        have hE2 := HE1.out.inc hq
        have hb2 := HB1.out.inc (.int .i64 ((q : Int) + 1))
        have hI2 := bldKeep HI1.out ((But.refl (fun k => k = sb) w1).inc (.int .i64 ((q : Int) + 1))) (fun k h => by have := HLT.out; have := HOB.out; omega)
        have HR2 := Lib.hid (show (if 16384 < acc.length then RR.bad p 5 else RR.ok (⟨acc.toArray⟩ : ByteArray) (q + 1)) = R by rw [← HR.out, ← h1]; rfl)
        clear hc1 h1 HR
        go_wp2_with fail
        clear c0 c1 c2 f1
        generalize (w1.setCell ⟨sb, 1, none⟩ (.int .i64 ((q : Int) + 1))) = w2 at *
        refine (Tryz.Builder_Len_f ob ob (byteCells acc) w2 hI2).mono ?_
        rintro e w3 ⟨rfl, hw3⟩
        rw [hw3]
        have hbl : (byteCells acc).length = acc.length := byteCells_length acc
        rw [hbl]
        by_cases hlen : 16384 < acc.length
        · have hl2 : (16384 : Int) < (acc.length : Int) := by omega
          have hR3 := HR2.out
          rw [if_pos hlen] at hR3
          clear hlen
          go_wp2_with fail
          rw [← hR3]
          exact ⟨rfl, rfl, hb2⟩
        · have hl2 : ¬ (16384 : Int) < (acc.length : Int) := by omega
          have hR3 := HR2.out
          rw [if_neg hlen] at hR3
          have HR3 := Lib.hid hR3
          have HB2 := Lib.hid hb2
          have HE2 := Lib.hid hE2
          have HI2 := Lib.hid hI2
          clear hlen hR3 HR2 hb2 hE2 hI2
          go_wp2_with fail
          refine (Tryz.Builder_String_any_f ob ob acc w2 HI2.out (by have := HB2.out.size; have := HOB.out; omega)).mono ?_
          rintro e w4 ⟨rfl, -, hbl4⟩
          have hb3 : But (fun k => k = sb) w w4 := ⟨hbl4.os.trans HB2.out.os, hbl4.tape.trans HB2.out.tape, hbl4.output.trans HB2.out.output, Nat.le_trans HB2.out.size hbl4.size, fun k hk hc => (hbl4.block k (by have := HOB.out; omega)).trans (HB2.out.block k hk hc)⟩
          have hE3 : Env B L A c sb w4 (q + 1) o := by
            have hbB : But (fun k => ob ≤ k) w2 w4 := ⟨hbl4.os, hbl4.tape, hbl4.output, hbl4.size, fun k hk hc => hbl4.block k (by omega)⟩
            exact HE2.out.stay hbB (fun k hk h => by have := HOB.out; have := HLT.out; omega) (fun h => by have := HOB.out; have := HLT.out; omega)
          clear hbl4
          go_wp2_with fail
          go_ret
          rw [← HR3.out]
          exact ⟨⟨_, rfl, rfl⟩, hE3, hb3⟩
end Go.Proofs.YtpjllcengnolkaaGreatDoor
