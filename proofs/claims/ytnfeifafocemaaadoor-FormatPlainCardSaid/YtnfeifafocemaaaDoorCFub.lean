/-
  Contracts of Base64, and of Unbase64 of what Base64 tells.
-/
import Derived.Test.YtnfeifafocemaaaDoorCFif
import Derived.Test.YtnfeifafocemaaaDoorCFal
import Derived.Lib.ConvBytes
set_option linter.unusedVariables false
set_option linter.unusedSimpArgs false
namespace Go.Proofs.YtnfeifafocemaaaDoor
open Go.RowKit Go.Lib

theorem enc_asciiF {x : UInt8} (h : x.toNat < 128) : encodeRune (x.toNat : Int) = [x] := by
  unfold encodeRune encodeRuneZ
  rw [if_pos (by omega)]
  simp
theorem isT_asciiF {L : List UInt8} (h : ∀ x ∈ L, x.toNat < 128) : isT L = true := by
  have e : enc (L.map fun x => (x.toNat : Int)) = L := by
    induction L with
    | nil => rfl
    | cons x L ih =>
      rw [List.map_cons, enc_cons, enc_asciiF (h x (by simp)), ih (fun y hy => h y (by simp [hy]))]; rfl
  rw [← e]
  refine isT_enc fun c hc => ?_
  obtain ⟨x, hx, rfl⟩ := List.mem_map.1 hc
  have := h x hx
  left; omega
theorem trimF (a : List UInt8) (n : Nat) (h : ∀ x ∈ a, x ≠ 61) : trimRightB (a ++ List.replicate n 61) 61 = a := by
  unfold trimRightB
  rw [List.reverse_append, List.reverse_replicate]
  have h1 : ∀ (n : Nat) (l : List UInt8), (∀ x ∈ l, x ≠ 61) → (List.replicate n 61 ++ l).dropWhile (· == 61) = l := by
    intro n l hl
    induction n with
    | zero =>
      cases l with
      | nil => rfl
      | cons x l => simp [hl x (by simp)]
    | succ n ih => rw [List.replicate_succ, List.cons_append, List.dropWhile_cons]; simpa using ih
  rw [h1 n a.reverse (fun x hx => h x (List.mem_reverse.1 hx)), List.reverse_reverse]
theorem enc64_ascii (L : List UInt8) : ∀ x ∈ enc64 L, x.toNat < 128 := by
  intro x hx
  rw [(enc_left L).1, List.mem_append] at hx
  rcases hx with hx | hx
  · exact ((left_ok L).1 x hx).2.1
  · rw [List.mem_replicate] at hx; rw [hx.2]; decide
theorem dig3_len (c : List UInt8) : (dig3 c).length = 4 := rfl
theorem flat_dig (L : List UInt8) : ((chkF 3 L).map dig3).flatten = enc64 L := by unfold enc64; rw [List.flatMap_def]
set_option maxRecDepth 100000 in
theorem digits_ins (L : List UInt8) (w : World) : InsF 12 #[] #[] (fun _ => False) (chkF 3 L) dig3 w := fun W _ c hc => toDigits_c c W (chkF_mem (by omega) hc).1 (chkF_mem (by omega) hc).2
set_option maxRecDepth 100000 in
set_option maxHeartbeats 1000000 in
theorem base64_c (s : ByteArray) (w : World) (hT : Tabs w) (hs : s.size ≤ 140737488355328) :
    Calls Tryd.prog 6 #[.string s] w fun e w' => e = .returned (.tuple #[.string (rwF s.data.toList (enc64 s.data.toList)).1, .int .i64 (rwF s.data.toList (enc64 s.data.toList)).2]) ∧ Below w.heap.size w w' := by
  have h := rewritten_c (k := 3) s w hT (by omega) (by omega) hs (enters_of Tryd.func12 (by kernel_rfl) rfl) (fun _ h => h.elim) (digits_ins _ w) (fun c _ => by rw [dig3_len]; omega)
  rw [flat_dig] at h
  obtain ⟨R, hR⟩ : ∃ R, rwF s.data.toList (enc64 s.data.toList) = R := ⟨_, rfl⟩
  rw [hR] at h ⊢
  have H := Lib.hid h
  clear h hR hT
  go_enter Tryd.func6, Tryd.ntmps6
  go_wp2_with fail
  refine H.out.mono ?_
  rintro e w1 ⟨rfl, hb1⟩
  have HB1 := Lib.hid hb1
  clear hb1
  go_wp2_with fail
  go_ret2
  exact ⟨rfl, HB1.out⟩
set_option maxRecDepth 100000 in
set_option maxHeartbeats 1000000 in
theorem containsFunc_c (s : ByteArray) (w : World) (hd : ∀ x ∈ s.data.toList, x ∈ digF ∧ x.toNat < 128) (hs : s.size ≤ 140737488355328) :
    Calls Tryd.prog 17 #[.string s, .func (.func 15) #[] #[]] w fun e w' => e = .returned (.bool false) ∧ Below w.heap.size w w' := by
  have hi : Calls Tryd.prog 32 #[.string s, .func (.func 15) #[] #[]] w fun e w' => e = .returned (.int .i64 (-1)) ∧ Below w.heap.size w w' := by
    have H := Lib.hid (indexFunc_c s w hd hs)
    clear hd hs
    go_enter Tryd.func32, Tryd.ntmps32
    go_wp2_with fail
    refine H.out.mono ?_
    rintro e w1 ⟨rfl, hb1⟩
    have HB1 := Lib.hid hb1
    clear hb1
    go_wp2_with fail
    go_ret
    exact ⟨rfl, HB1.out⟩
  have H := Lib.hid hi
  clear hd hs hi
  go_enter Tryd.func17, Tryd.ntmps17
  go_wp2_with fail
  refine H.out.mono ?_
  rintro e w1 ⟨rfl, hb1⟩
  have HB1 := Lib.hid hb1
  clear hb1
  go_wp2_with fail
  go_ret
  exact ⟨rfl, HB1.out⟩
theorem octets_ins (L : List UInt8) (w : World) : InsF 20 #[] #[] (fun _ => False) (chkF 4 (left64 L)) oct3 w := fun W _ c hc => by
  refine toOctets_c c W (chkF_mem (by omega) hc).2 fun x hx => ?_
  rw [(enc_left L).2.1] at hc
  obtain ⟨c2, h2, rfl⟩ := List.mem_map.1 hc
  exact (digs_ok (chkF_mem (by omega) h2).2 x hx).2.2
theorem flat_oct (L : List UInt8) : ((chkF 4 (left64 L)).map oct3).flatten = L := by
  rw [← List.flatMap_def]; exact left_back L
theorem oct3_len (c : List UInt8) : (oct3 c).length ≤ 3 := by
  unfold oct3
  rw [List.length_take]
  exact Nat.min_le_right _ _
theorem convF (L : List UInt8) (w : World) : (convert 9 41 (.string ⟨L.toArray⟩)).run Tryd.prog w = .ok (.slice (some ⟨w.heap.size, 0, none⟩) L.length (grownCap w L.length 0 5)) (bytesWorld w 5 ⟨L.toArray⟩) := by
  have h := Go.Lib.run_convert_string_bytes (P := Tryd.prog) w 9 41 5 ⟨L.toArray⟩ Tryd.underlying9 Tryd.underlying41 Tryd.underlying5
  have hs : (⟨L.toArray⟩ : ByteArray).size = L.length := by show L.toArray.size = _; simp
  rw [hs] at h
  exact h
theorem convRd (L : List UInt8) (w : World) : RdV (bytesWorld w 5 ⟨L.toArray⟩) (fun b => b < (bytesWorld w 5 ⟨L.toArray⟩).heap.size) (some ⟨w.heap.size, 0, none⟩) L.length (bs8 L) :=
  ⟨bs8_length L, fun _ => ⟨_, _, rfl, by rw [bytesWorld_size]; omega, fun j v hv => by
    unfold bs8 at hv
    rw [List.getElem?_map] at hv
    obtain ⟨x, hx, rfl⟩ := Option.map_eq_some_iff.1 hv
    have hl := (List.getElem?_eq_some_iff.1 hx).1
    rw [Nat.zero_add, bytesWorld_cell w 5 ⟨L.toArray⟩ j (by show j < L.toArray.size; rw [List.size_toArray]; exact hl)]
    show some (Value.int .u8 (((L.toArray.toList).getD j 0).toNat : Int)) = _
    rw [List.toList_toArray, List.getD_eq_getElem?_getD, hx]
    rfl⟩⟩
set_option maxRecDepth 100000 in
set_option maxHeartbeats 2000000 in
theorem unbase64_c (L : List UInt8) (w : World) (hT : Tabs w) (hL : isT L = true) (hl : (enc64 L).length ≤ 16384) :
    Calls Tryd.prog 7 #[.string (mk8 (enc64 L))] w fun e w' => e = .returned (.tuple #[.string (mk8 L), .int .i64 0]) ∧ Below w.heap.size w w' := by
  have hll : (enc64 L).length = (left64 L).length + eqs L := by rw [(enc_left L).1, List.length_append, List.length_replicate]
  have hLl : L.length ≤ 16384 := by have := (enc_left L).2.2; omega
  have hC := UCheck_c (mk8 (enc64 L)) w hT (by rw [mk8_size]; omega)
  have e1 : errT (enc64 L) = 0 := by unfold errT; rw [if_pos (isT_asciiF (enc64_ascii L))]
  rw [mk8_L, e1] at hC
  have hTr := fun W => Tryd.strings_TrimRight_one (mk8 (enc64 L)) 61 (by decide) W (by rw [mk8_size]; omega)
  rw [mk8_L, (enc_left L).1, trimF (left64 L) (eqs L) (fun x hx => ((left_ok L).1 x hx).1), ← (enc_left L).1] at hTr
  have hCF := fun W => containsFunc_c (mk8 (left64 L)) W (fun x hx => by rw [mk8_L] at hx; exact ⟨((left_ok L).1 x hx).2.2, ((left_ok L).1 x hx).2.1⟩) (by rw [mk8_size]; omega)
  obtain ⟨s, hs⟩ : ∃ s, mk8 (enc64 L) = s := ⟨_, rfl⟩
  obtain ⟨t, ht⟩ : ∃ t, mk8 (left64 L) = t := ⟨_, rfl⟩
  have htt : (⟨(left64 L).toArray⟩ : ByteArray) = t := ht
  have hts : t.size = (left64 L).length := by rw [← ht]; exact mk8_size _
  obtain ⟨B, hB⟩ : ∃ B, badAt (enc64 L) = B := ⟨_, rfl⟩
  obtain ⟨n, hn⟩ : ∃ n, (left64 L).length = n := ⟨_, rfl⟩
  have hn4 := (left_ok L).2
  rw [hn] at hts hn4 hll
  have HN : Hid (n ≤ 16384) := by show _ ≤ _; omega
  have hrem2 : ((n : Int) % 4 == 1) = false := by rw [beq_eq_false_iff_ne]; omega
  rw [hB, hs] at hC
  rw [htt, hs] at hTr
  rw [ht] at hCF
  rw [hs]
  have HC := Lib.hid hC
  have HTR := Lib.hid hTr
  have HCF := Lib.hid hCF
  have HTB := Lib.hid hT
  have HT := Lib.hid ht
  clear hC hTr hCF hs ht htt hB e1 hT hll hn hn4
  go_enter Tryd.func7, Tryd.ntmps7
  go_wp2_with fail
  refine HC.out.mono ?_
  rintro e w1 ⟨rfl, hb1⟩
  have HB1 := Lib.hid hb1
  clear hb1
  go_wp2_with fail
  refine (HTR.out w1).mono ?_
  rintro e w2 ⟨rfl, rfl⟩
  go_wp2_with fail
  refine (HCF.out _).mono ?_
  rintro e w3 ⟨rfl, hb3⟩
  have hb13 := HB1.out.trans (hb3.mono HB1.out.size)
  have hp := pieces_c t 4 20 #[] #[] w3
  have HB3 := Lib.hid hb13
  have HP := Lib.hid hp
  clear hb3 hb13 hp
  go_wp2_with fail
  refine HP.out.mono ?_
  rintro e w4 ⟨rfl, hw4⟩
  have hj := joinP_c (k := 4) t w3 w4 (by omega) (by omega) (by rw [hts]; have := HN.out; omega) (enters_of Tryd.func20 (by kernel_rfl) rfl) (K0 := fun _ => False) (fun _ h => False.elim h) (by rw [← HT.out, mk8_L]; exact octets_ins L w3) (fun c _ => by have := oct3_len c; omega) hw4
  rw [← HT.out, mk8_L, flat_oct, tellF_ok hLl] at hj
  have HJ := Lib.hid hj
  clear hj hw4
  go_wp2_with fail
  refine HJ.out.mono ?_
  rintro e w5 ⟨rfl, hb5⟩
  have hb15 := HB3.out.trans (hb5.mono HB3.out.size)
  have HB5 := Lib.hid hb15
  clear hb5 hb15
  obtain ⟨ob, hob⟩ : ∃ b, w5.heap.size = b := ⟨_, rfl⟩
  obtain ⟨Q, hQ⟩ : ∃ Q : ByteArray, (⟨L.toArray⟩ : ByteArray) = Q := ⟨_, rfl⟩
  have hQs : Q.size = L.length := by rw [← hQ]; exact mk8_size L
  have hcv := convF L w5
  have hwb : Below ob w5 (bytesWorld w5 5 ⟨L.toArray⟩) := ⟨rfl, rfl, rfl, by rw [bytesWorld_size]; omega, fun k hk => bytesWorld_at_old _ _ _ _ (by omega)⟩
  have hws : (bytesWorld w5 5 ⟨L.toArray⟩).heap.size = ob + 1 := by rw [bytesWorld_size, hob]
  have hmd := Mend_c (c0 := grownCap w5 L.length 0 5) (bytesWorld w5 5 ⟨L.toArray⟩) (HTB.out.below (HB5.out.trans (hwb.mono (by have := HB5.out.size; omega)))) (convRd L w5) (fun b hb => hb) (by omega)
  rw [mendT_text hL, hQ] at hmd
  rw [hQ] at hcv hwb hws ⊢
  rw [hob] at hcv hmd
  obtain ⟨w6, hw6⟩ : ∃ x, bytesWorld w5 5 Q = x := ⟨_, rfl⟩
  rw [hw6] at hcv hmd hwb hws
  have hal := fun W => alone_c L W (by omega)
  rw [tellF_ok hLl] at hal
  have HMD := Lib.hid hmd
  have HAL := Lib.hid hal
  have HB6 := Lib.hid (HB5.out.trans (hwb.mono (by have := HB5.out.size; omega)))
  have hQ2 : mk8 L = Q := hQ
  have HQ := Lib.hid hQ2
  rw [hQ2] at HAL
  clear hmd hal hwb hw6 hQ hQ2
  go_wp2_with fail
  refine HMD.out.mono ?_
  rintro e w7 ⟨rfl, hb7⟩
  have HB7 := Lib.hid (HB6.out.trans (hb7.mono HB6.out.size))
  clear hb7
  try rw [HQ.out]
  go_wp2_with fail
  refine (HAL.out w7).mono ?_
  rintro e w8 ⟨rfl, hb8⟩
  have HB8 := Lib.hid (HB7.out.trans (hb8.mono HB7.out.size))
  clear hb8
  go_wp2_with fail
  go_ret2
  refine ⟨?_, HB8.out⟩
  rw [HQ.out]
  first | rfl | (rw [← HQ.out]; rfl)
end Go.Proofs.YtnfeifafocemaaaDoor
