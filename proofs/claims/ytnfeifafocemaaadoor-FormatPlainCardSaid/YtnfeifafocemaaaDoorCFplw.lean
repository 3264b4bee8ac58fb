/-
  The walk of FormatPlain.
-/
import Derived.Test.YtnfeifafocemaaaDoorCFht
import Derived.Test.YtnfeifafocemaaaDoorCFaw
set_option linter.unusedVariables false
set_option linter.unusedSimpArgs false
namespace Go.Proofs.YtnfeifafocemaaaDoor
open Go.RowKit Go.Lib

/-- The octets of which an address is made. -/
def ClsU (d : UInt8) : Prop := (97 ≤ d.toNat ∧ d.toNat ≤ 122) ∨ (65 ≤ d.toNat ∧ d.toNat ≤ 90) ∨ (48 ≤ d.toNat ∧ d.toNat ≤ 57) ∨ d.toNat = 37 ∨ d.toNat = 45 ∨ d.toNat = 95 ∨ d.toNat = 46 ∨ d.toNat = 126
instance (d : UInt8) : Decidable (ClsU d) := by unfold ClsU; infer_instance
/-- None of these stands in a page. -/
def ClsH (d : UInt8) : Prop := d.toNat ≠ 60 ∧ d.toNat ≠ 62 ∧ d.toNat ≠ 39 ∧ d.toNat ≠ 34
instance (d : UInt8) : Decidable (ClsH d) := by unfold ClsH; infer_instance
def okP (d : UInt8) : Bool := decide ((97 ≤ d.toNat ∧ d.toNat ≤ 122) ∨ (48 ≤ d.toNat ∧ d.toNat ≤ 57))
theorem all_byte {p : UInt8 → Prop} [DecidablePred p] (h : ∀ n, n < 256 → p (UInt8.ofNat n)) (x : UInt8) : p x := by
  have := h x.toNat x.toNat_lt
  rwa [UInt8.ofNat_toNat] at this
set_option maxRecDepth 100000 in
theorem uri_cls (x : UInt8) : ∀ d ∈ uriC x, ClsU d := all_byte (p := fun x => ∀ d ∈ uriC x, ClsU d) (by decide +kernel) x
set_option maxRecDepth 100000 in
theorem html_cls (x : UInt8) : ∀ d ∈ htmlC x, ClsH d := all_byte (p := fun x => ∀ d ∈ htmlC x, ClsH d) (by decide +kernel) x
set_option maxRecDepth 100000 in
theorem plain_one (x : UInt8) : okP x = true → uriC x = [x] ∧ htmlC x = [x] ∧ x.toNat < 128 := all_byte (p := fun x => okP x = true → uriC x = [x] ∧ htmlC x = [x] ∧ x.toNat < 128) (by decide +kernel) x
/-- What is told is empty, or all of it. -/
theorem rwF_cases (L out : List UInt8) : (∃ E : Int, rwF L out = (⟨#[]⟩, E)) ∨ rwF L out = (mk8 out, 0) := by
  unfold rwF tellF
  split
  · split
    · exact .inr rfl
    · exact .inl ⟨_, rfl⟩
  · exact .inl ⟨_, rfl⟩
theorem rwF_len (L out : List UInt8) : (rwF L out).1.size ≤ 16384 := by
  unfold rwF tellF
  split
  · split
    · rename_i h; exact Nat.le_trans (Nat.le_of_eq (mk8_size out)) h
    · show 0 ≤ 16384; omega
  · show 0 ≤ 16384; omega
theorem rwF_mem {L out : List UInt8} {p : UInt8 → Prop} (h : ∀ d ∈ out, p d) : ∃ (o : List UInt8) (E : Int), rwF L out = (mk8 o, E) ∧ ∀ d ∈ o, p d := by
  rcases rwF_cases L out with ⟨E, h2⟩ | h2
  · exact ⟨[], E, h2, fun d hd => by cases hd⟩
  · exact ⟨out, 0, h2, h⟩
theorem plain_all {L : List UInt8} (h : L.all okP = true) : isT L = true ∧ L.flatMap uriC = L ∧ L.flatMap htmlC = L := by
  rw [List.all_eq_true] at h
  refine ⟨isT_asciiF fun x hx => (plain_one x (h x hx)).2.2, ?_, ?_⟩
  · have : ∀ M : List UInt8, (∀ x ∈ M, okP x = true) → M.flatMap uriC = M := fun M => by
      induction M with
      | nil => exact fun _ => rfl
      | cons x M ih => exact fun hM => by rw [List.flatMap_cons, (plain_one x (hM x (by simp))).1, ih (fun y hy => hM y (by simp [hy]))]; rfl
    exact this L h
  · have : ∀ M : List UInt8, (∀ x ∈ M, okP x = true) → M.flatMap htmlC = M := fun M => by
      induction M with
      | nil => exact fun _ => rfl
      | cons x M ih => exact fun hM => by rw [List.flatMap_cons, (plain_one x (hM x (by simp))).2.1, ih (fun y hy => hM y (by simp [hy]))]; rfl
    exact this L h
theorem all_takeF {L : List UInt8} {i : Nat} {x : UInt8} (h : L[i]? = some x) (p : UInt8 → Bool) : (L.take (i + 1)).all p = ((L.take i).all p && p x) := by
  have hl := (List.getElem?_eq_some_iff.1 h).1
  have e : L.take (i + 1) = L.take i ++ [x] := by
    rw [List.take_add_one, h]; rfl
  rw [e, List.all_append]
  simp
theorem get_at {s : ByteArray} {L : List UInt8} (h : s.data.toList = L) {i : Nat} (hi : i < L.length) : ∃ x, L[i]? = some x ∧ ∀ hh : i < s.size, s[i]'hh = x := by
  subst h
  refine ⟨s.data.toList[i], List.getElem?_eq_getElem hi, fun hh => ?_⟩
  show s.data[i]'hh = _
  rw [Array.getElem_toList]
set_option maxHeartbeats 8000000 in
set_option maxRecDepth 100000 in
theorem formatPlain_c (s : ByteArray) (w : World) (hT : Tabs w) (hs : s.size ≤ 140737488355328) : Calls Tryd.prog 4 #[.string s] w fun e w' => e = .returned (.bool true) ∧ Below w.heap.size w w' := by
  obtain ⟨L, hL⟩ : ∃ L, s.data.toList = L := ⟨_, rfl⟩
  have hsz : s.size = L.length := by rw [← hL, Array.length_toList]; rfl
  have hu := fun W (hW : Tabs W) => uri_c s W hW hs
  have hh := fun W (hW : Tabs W) => html_c s W hW hs
  rw [hL] at hu hh
  have hsame : L.all okP = true → L.length ≤ 16384 → rwF L (L.flatMap uriC) = (s, 0) ∧ rwF L (L.flatMap htmlC) = (s, 0) := fun h1 h2 => by
    obtain ⟨h3, h4, h5⟩ := plain_all h1
    have e : mk8 L = s := by rw [← hL]; exact mk8_of s
    rw [h4, h5]
    unfold rwF
    rw [if_pos h3, tellF_ok h2]
    exact ⟨congrArg (fun x => (x, (0 : Int))) e, congrArg (fun x => (x, (0 : Int))) e⟩
  obtain ⟨A, E1, hA, hAc⟩ := rwF_mem (L := L) (out := L.flatMap uriC) (p := ClsU) (fun d hd => by
    obtain ⟨x, _, h⟩ := List.mem_flatMap.1 hd
    exact uri_cls x d h)
  obtain ⟨Q, E2, hQ, hQc⟩ := rwF_mem (L := L) (out := L.flatMap htmlC) (p := ClsH) (fun d hd => by
    obtain ⟨x, _, h⟩ := List.mem_flatMap.1 hd
    exact html_cls x d h)
  rw [hA] at hu hsame
  rw [hQ] at hh hsame
  obtain ⟨TA, hTA⟩ : ∃ t, mk8 A = t := ⟨_, rfl⟩
  obtain ⟨TQ, hTQ⟩ : ∃ t, mk8 Q = t := ⟨_, rfl⟩
  have hLA : TA.data.toList = A := by rw [← hTA]; exact mk8_L A
  have hLQ : TQ.data.toList = Q := by rw [← hTQ]; exact mk8_L Q
  have hsA : TA.size = A.length := by rw [← hTA]; exact mk8_size A
  have hsQ : TQ.size = Q.length := by rw [← hTQ]; exact mk8_size Q
  rw [hTA] at hu hsame
  rw [hTQ] at hh hsame
  have HU := Lib.hid hu
  have HH := Lib.hid hh
  have HS := Lib.hid hsame
  have HA := Lib.hid (alive14_c w hT)
  have HT := Lib.hid hT
  have HL := Lib.hid hL
  have HLA := Lib.hid hLA
  have HLQ := Lib.hid hLQ
  have HAC := Lib.hid hAc
  have HQC := Lib.hid hQc
  have hnl : L.length ≤ 140737488355328 := by omega
  have hna : A.length ≤ 16384 := by have := rwF_len L (L.flatMap uriC); rw [hA] at this; rw [← mk8_size A]; exact this
  have hnq : Q.length ≤ 16384 := by have := rwF_len L (L.flatMap htmlC); rw [hQ] at this; rw [← mk8_size Q]; exact this
  clear hu hh hsame hTA hTQ hLA hLQ hAc hQc hA hQ hL hs
  go_enter Tryd.func4, Tryd.ntmps4
  go_wp2_with fail
  refine HA.out.mono ?_
  rintro e w1 ⟨rfl, hb1⟩
  have HB1 := Lib.hid hb1
  clear hb1
  go_wp2_with fail
  refine (HU.out w1 (HT.out.below HB1.out)).mono ?_
  rintro e w2 ⟨rfl, hb2⟩
  have HB2 := Lib.hid (HB1.out.trans (hb2.mono HB1.out.size))
  clear hb2
  go_wp2_with fail
  refine (HH.out w2 (HT.out.below HB2.out)).mono ?_
  rintro e w3 ⟨rfl, hb3⟩
  have HB3 := Lib.hid (HB2.out.trans (hb3.mono HB2.out.size))
  clear hb3
  go_upto_region 7 with fail
  go_loopw [7, 8] (fun sv iv wr => ∃ i : Nat, i ≤ L.length ∧ iv = .int .i64 (i : Int) ∧ sv = .bool ((L.take i).all okP) ∧ w3 = wr) (fun _ iv _ => L.length - (RowKit.intOf iv).toNat)
  case atStart => exact ⟨0, Nat.zero_le _, rfl, rfl, rfl⟩
  case round =>
    obtain ⟨i, hi, rfl, rfl, rfl⟩ := hrel
    by_cases hlt : i < L.length
    · have hltz : (i : Int) < (L.length : Int) := by omega
      have hi0 : (0 : Int) ≤ (i : Int) := by omega
      have hit : ((i : Int)).toNat = i := by omega
      have hiw : IntKind.i64.wrap ((i : Int) + 1) = (i : Int) + 1 := IntWalk.i64_in _ (by omega)
      obtain ⟨x, hx, hg⟩ := get_at HL.out hlt
      have hgx := hg (by omega)
      have htk := all_takeF hx okP
      obtain ⟨b, hb⟩ : ∃ b, (L.take i).all okP = b := ⟨_, rfl⟩
      rw [hb] at htk ⊢
      have hokx : okP x = decide ((97 ≤ x.toNat ∧ x.toNat ≤ 122) ∨ (48 ≤ x.toNat ∧ x.toNat ≤ 57)) := rfl
      have HTK := Lib.hid htk
      have HOK := Lib.hid hokx
      clear hx hg hb htk hokx
      cases b with
      | false =>
        go_wp2_with fail
        exact ⟨⟨i + 1, hlt, rfl, by rw [HTK.out]; rfl, trivial⟩, by simp [RowKit.intOf]; omega⟩
      | true =>
        have hx256 := x.toNat_lt
        obtain ⟨z, hz⟩ : ∃ z, x.toNat = z := ⟨_, rfl⟩
        have HZ := Lib.hid hz
        rw [hz] at hx256
        have hcl : z < 48 ∨ (48 ≤ z ∧ z ≤ 57) ∨ (57 < z ∧ z < 97) ∨ (97 ≤ z ∧ z ≤ 122) ∨ 122 < z := by omega
        have fin : ∀ v : Bool, v = decide ((97 ≤ z ∧ z ≤ 122) ∨ (48 ≤ z ∧ z ≤ 57)) → Value.bool v = Value.bool ((L.take (i + 1)).all okP) := fun v hv => by
          rw [HTK.out, HOK.out, HZ.out, hv]; rfl
        have FIN := Lib.hid fin
        clear fin
        rcases hcl with hc | hc | hc | hc | hc
        all_goals go_wp2_with fail
        all_goals exact ⟨⟨i + 1, hlt, rfl, FIN.out _ (by first | (symm; apply decide_eq_true; omega) | (symm; apply decide_eq_false; omega) | (rw [Bool.eq_iff_iff]; simp only [decide_eq_true_eq, Bool.or_eq_true, Bool.and_eq_true]; omega)), trivial⟩, by simp [RowKit.intOf]; omega⟩
    · obtain rfl : i = L.length := by omega
      rw [List.take_length]
      obtain ⟨b, hb⟩ : ∃ b, L.all okP = b := ⟨_, rfl⟩
      rw [hb]
      have HBB := Lib.hid hb
      clear hb
      go_upto_region 11 with fail
      go_loopw [9, 10] (fun iv _ wr => ∃ i : Nat, i ≤ A.length ∧ iv = .int .i64 (i : Int) ∧ w3 = wr) (fun iv _ _ => A.length - (RowKit.intOf iv).toNat)
      case atStart => exact ⟨0, Nat.zero_le _, rfl, rfl⟩
      case round =>
        obtain ⟨i, hi, rfl, rfl⟩ := hrel
        by_cases hlt : i < A.length
        · have hltz : (i : Int) < (A.length : Int) := by omega
          have hi0 : (0 : Int) ≤ (i : Int) := by omega
          have hit : ((i : Int)).toNat = i := by omega
          have hiw : IntKind.i64.wrap ((i : Int) + 1) = (i : Int) + 1 := IntWalk.i64_in _ (by omega)
          obtain ⟨x, hx, hg⟩ := get_at HLA.out hlt
          have hgx := hg (by omega)
          have hcl := HAC.out x (List.mem_of_getElem? hx)
          have hx256 := x.toNat_lt
          unfold ClsU at hcl
          obtain ⟨z, hz⟩ : ∃ z, x.toNat = z := ⟨_, rfl⟩
          have HZ := Lib.hid hz
          rw [hz] at hx256 hcl
          clear hx hg
          rcases hcl with hc | hc | hc | hc | hc | hc | hc | hc
          all_goals go_wp2_with fail
          all_goals exact ⟨⟨i + 1, hlt, rfl, trivial⟩, by simp [RowKit.intOf]; omega⟩
        · obtain rfl : i = A.length := by omega
          go_upto_region 17 with fail
          go_loopw [11] (fun iv wr => ∃ i : Nat, i ≤ Q.length ∧ iv = .int .i64 (i : Int) ∧ w3 = wr) (fun iv _ => Q.length - (RowKit.intOf iv).toNat)
          case atStart => exact ⟨0, Nat.zero_le _, rfl, rfl⟩
          case round =>
            obtain ⟨i, hi, rfl, rfl⟩ := hrel
            by_cases hlt : i < Q.length
            · have hltz : (i : Int) < (Q.length : Int) := by omega
              have hi0 : (0 : Int) ≤ (i : Int) := by omega
              have hit : ((i : Int)).toNat = i := by omega
              have hiw : IntKind.i64.wrap ((i : Int) + 1) = (i : Int) + 1 := IntWalk.i64_in _ (by omega)
              obtain ⟨x, hx, hg⟩ := get_at HLQ.out hlt
              have hgx := hg (by omega)
              have hcl := HQC.out x (List.mem_of_getElem? hx)
              have hx256 := x.toNat_lt
              unfold ClsH at hcl
              obtain ⟨z, hz⟩ : ∃ z, x.toNat = z := ⟨_, rfl⟩
              have HZ := Lib.hid hz
              rw [hz] at hx256 hcl
              obtain ⟨hc1, hc2, hc3, hc4⟩ := hcl
              have f1 : ((z : Int) == 60) = false := by rw [beq_eq_false_iff_ne]; omega
              have f2 : ((z : Int) == 62) = false := by rw [beq_eq_false_iff_ne]; omega
              have f3 : ((z : Int) == 39) = false := by rw [beq_eq_false_iff_ne]; omega
              have f4 : ((z : Int) == 34) = false := by rw [beq_eq_false_iff_ne]; omega
              clear hx hg
              go_wp2_with fail
              exact ⟨⟨i + 1, hlt, rfl, trivial⟩, by simp [RowKit.intOf]; omega⟩
            · obtain rfl : i = Q.length := by omega
              cases b with
              | false =>
                go_wp2_with fail
                go_ret
                exact ⟨rfl, HB3.out⟩
              | true =>
                by_cases hbig : 16384 < L.length
                · have hbz : (16384 : Int) < (L.length : Int) := by omega
                  go_wp2_with fail
                  go_ret
                  exact ⟨rfl, HB3.out⟩
                · have hbz : ¬ (16384 : Int) < (L.length : Int) := by omega
                  obtain ⟨h1, h2⟩ := HS.out HBB.out (by omega)
                  injection h1 with h3 h4
                  injection h2 with h5 h6
                  subst h3 h4 h5 h6
                  go_wp2_with (go_at_call 8; refine (num14_c _ _).mono ?_; rintro e w' ⟨rfl, rfl⟩)
                  go_ret
                  exact ⟨rfl, HB3.out⟩
end Go.Proofs.YtnfeifafocemaaaDoor
