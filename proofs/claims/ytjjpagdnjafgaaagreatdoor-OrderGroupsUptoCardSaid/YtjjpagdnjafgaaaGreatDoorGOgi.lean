/-
  Contract of the iterator that hands out the groups of places in order.
-/
import Derived.Test.YtjjpagdnjafgaaaGreatDoorGOgq
import Derived.Test.YtjjpagdnjafgaaaGreatDoorGOrl
import Derived.Test.YtjjpagdnjafgaaaGreatDoorGOal
import Derived.Lib.QuietBelowIn
set_option linter.unusedVariables false
set_option linter.unusedSimpArgs false
namespace Go.Proofs.YtjjpagdnjafgaaaGreatDoor
open Go.RowKit Go.Lib Go.Sort

/-- Whether two places' keys stand alike. -/
def likeK (K : List VT) (ps : List Nat) (i j : Nat) : Bool := ordV (K[ps[i]?.getD 0]?.getD (.mk 0 false [] 0 ⟨#[]⟩ [] [])) (K[ps[j]?.getD 0]?.getD (.mk 0 false [] 0 ⟨#[]⟩ [] [])) == 0
theorem likeK_self (K : List VT) (ps : List Nat) (i : Nat) : likeK K ps i i = true := by unfold likeK; rw [ordV_self]; rfl
theorem likeK_at {K : List VT} {ps : List Nat} {i j p q : Nat} {x y : VT} (hp : ps[i]? = some p) (hq : ps[j]? = some q) (hx : K[p]? = some x) (hy : K[q]? = some y) : likeK K ps i j = (ordV x y == 0) := by
  unfold likeK
  rw [hp, hq]
  simp [hx, hy]
/-- What a group is handed out as. -/
def encG (n : Nat) (g : Nat) (p : Nat × Nat) : Array Value := #[.slice (some ⟨g, p.1, none⟩) (p.2 - p.1) (n - p.1)]
/-- The places lie in a block. -/
def HPg (ps : List Nat) (g : Nat) (w : World) : Prop := ∀ (k p : Nat), ps[k]? = some p → w.cell? ⟨g, k, none⟩ = some (.int .i64 (p : Int))

set_option maxRecDepth 100000 in
theorem ogroups_c {A : Option Addr} {n c : Nat} (w : World) : Calls Tryz.prog 93 #[.agg #[.slice A n c, .func (.func 90) #[] #[]]] w fun e w' => e = .returned (.func (.func 134) #[] #[.pointer (some ⟨w.heap.size, 0, none⟩)]) ∧ w' = w.alloc (.cells #[.slice A n c, .func (.func 90) #[] #[]] 121) := by
  have hmf : ∀ (fn : Fn) (first cap : Array Value) (w : World), (Instr.makeFunc fn first cap).run Tryz.prog w = .ok (.func fn first cap) w := fun _ _ _ _ => rfl
  go_enter Tryz.func93, Tryz.ntmps93
  go_wp2
  go_ret
  exact ⟨rfl, rfl⟩

set_option maxRecDepth 100000 in
set_option maxHeartbeats 2000000 in
theorem ogroups1_iter {b : Nat} {S : Nat → Prop} {A : Option Addr} {n c : Nat} {K : List VT} {ps : List Nat} (W : World) (hbox : W.heap[b]? = some (.cells #[.slice A n c, .func (.func 90) #[] #[]] 121)) (hK : RdL W S A n K) (hS : ∀ k, S k → k < W.heap.size) (hn : n ≤ 21474836) (hf : ∀ x ∈ K, fine x) (hps : Placed K ps) :
    IterG Tryz.prog 134 #[.pointer (some ⟨b, 0, none⟩)] (encG n) (fun k => k = b ∨ S k) (HPg ps) (runG (likeK K ps) n) W := by
  intro l J Jx hJ hJx h0 hY
  refine callsIn_of_wp Tryz.func134 rfl trivial ?_ rfl
  simp only [Tryz.ntmps134, List.size_toArray, List.length_cons, List.length_nil, Nat.reduceAdd, Nat.reduceSub, Array.replicate_succ, Array.replicate_zero, List.push_toArray, List.append_toArray, List.nil_append, List.cons_append]
  have HJ := Lib.hid hJ
  have HJX := Lib.hid hJx
  have H0 := Lib.hid h0
  have HY := Lib.hid hY
  have HK := Lib.hid hK
  have HS := Lib.hid hS
  have HF := Lib.hid hf
  have HPS := Lib.hid hps
  have HKN := Lib.hid hK.1
  have HBOX := Lib.hid hbox
  have hbW : b < W.heap.size := (Array.getElem?_eq_some_iff.1 hbox).1
  have q0 : W.cell? ⟨b, 0, none⟩ = some (.slice A n c) := cell_at hbox rfl
  have q1 : W.cell? ⟨b, 1, none⟩ = some (.func (.func 90) #[] #[]) := cell_at hbox rfl
  have HP := places_c (c := c) W hK (by omega) hS hf
  clear hJ hJx h0 hY hK hS hf hps hbox
  gi_upto_region 1 with (refine ⟨trivial, rfl, ?_⟩; refine (callsIn_wide.2 HP).mono ?_; rintro e W1 ⟨B, ps', rfl, hpl, ⟨g, rfl, hgW, hg1, hcg⟩, hb1⟩)
  obtain rfl : ps' = ps := hpl.one HPS.out
  have hj0 := H0.out g W1 hcg hb1 ⟨hgW, hg1⟩
  have HCG := Lib.hid hcg
  have HB1 := Lib.hid hb1
  have HJ0 := Lib.hid hj0
  have HPN : Hid (ps'.length = n) := by show _ = _; rw [hpl.len]; exact HKN.out
  obtain ⟨f, hfd⟩ : ∃ f, likeK K ps' = f := ⟨_, rfl⟩
  have hff : f 0 0 = true := by rw [← hfd]; exact likeK_self _ _ _
  have HFD := Lib.hid hfd
  have HFF := Lib.hid hff
  rw [hfd] at HY
  clear hcg hpl hj0 q0 q1 HP hfd hff hb1
  gi_upto_region 3 with fail
  gi_loopw [4, 10] (fun fv iv wr => ∃ k m : Nat, k ≤ n ∧ iv = .int .i64 (k : Int) ∧ fv = .int .i64 (m : Int) ∧ Hid ((runF f k).1 = m) ∧ J g (runF f k).2 wr ∧ KeptS (fun k => k = b ∨ S k) (· = g) W1 wr) (fun _ iv _ => n - (intOf iv).toNat)
  case atStart => exact ⟨0, 0, Nat.zero_le _, rfl, rfl, rfl, HJ0.out, KeptS.refl _ _ _⟩
  case round =>
    obtain ⟨k, m, hk, rfl, rfl, hm, hj, hkp⟩ := hrel
    have HM := Lib.hid hm.out
    have HJK := Lib.hid hj
    have HKP := Lib.hid hkp
    have hmk : m ≤ k := by have := runF_le f k; have := HM.out; omega
    have hsz1 := HKP.out.size
    have hW1 := HB1.out.size
    have hgr : g < wr.heap.size := by omega
    have hcellg : ∀ (k p : Nat), ps'[k]? = some p → wr.cell? ⟨g, k, none⟩ = some (.int .i64 (p : Int)) := fun k p h => (World.cell?_of_block (hkp.block g (.inr rfl))).trans (HCG.out k p h)
    have hboxr : wr.heap[b]? = some (.cells #[.slice A n c, .func (.func 90) #[] #[]] 121) := (hkp.block b (.inl (.inl rfl))).trans ((HB1.out.block b hbW).trans HBOX.out)
    have hkeepS : ∀ p : Addr, S p.block → wr.cell? p = W.cell? p := fun p hp => (World.cell?_of_block (hkp.block _ (.inl (.inr hp)))).trans (HB1.out.cell (HS.out _ hp))
    have HKEEP := Lib.hid hkeepS
    have HBOXR := Lib.hid hboxr
    have HCELLG := Lib.hid hcellg
    clear hm hj hkp hkeepS hboxr hcellg
    by_cases hkn : k < n
    · have hlt : (k : Int) < (n : Int) := by omega
      have hk0 : (0 : Int) ≤ (k : Int) := by omega
      have hkt : ((k : Int)).toNat = k := by omega
      have hkw : IntKind.i64.wrap ((k : Int) + 1) = (k : Int) + 1 := IntWalk.i64_in _ (by omega)
      have hmlt : (m : Int) < (n : Int) := by omega
      have hm0 : (0 : Int) ≤ (m : Int) := by omega
      have hmt : ((m : Int)).toNat = m := by omega
      obtain ⟨p, hp⟩ : ∃ p, ps'[m]? = some p := ⟨_, List.getElem?_eq_getElem (by have := HPN.out; omega)⟩
      obtain ⟨q, hq⟩ : ∃ q, ps'[k]? = some q := ⟨_, List.getElem?_eq_getElem (by have := HPN.out; omega)⟩
      have hpn : p < n := by have := HPS.out.lt (List.mem_of_getElem? hp); have := HKN.out; omega
      have hqn : q < n := by have := HPS.out.lt (List.mem_of_getElem? hq); have := HKN.out; omega
      have hpl : (p : Int) < (n : Int) := by omega
      have hp0 : (0 : Int) ≤ (p : Int) := by omega
      have hpt : ((p : Int)).toNat = p := by omega
      have hql : (q : Int) < (n : Int) := by omega
      have hq0 : (0 : Int) ≤ (q : Int) := by omega
      have hqt : ((q : Int)).toNat = q := by omega
      obtain ⟨a, off, x, cs, rfl, hSa, hx, h71, hc1, hv1⟩ := HK.out.at_ hpn
      obtain ⟨a', off', y, ds, hA2, -, hy, h72, hc2, hv2⟩ := HK.out.at_ hqn
      injection hA2 with hA2
      injection hA2 with hA3 hA4
      subst hA3
      subst hA4
      obtain ⟨k1, neg1, A1, n1, c1, e1, t1, LA1, ln1, lc1, KA1, kn1, kc1, rfl⟩ := hv1.seven
      obtain ⟨k2, neg2, A2, n2, c2, e2, t2, LA2, ln2, lc2, KA2, kn2, kc2, rfl⟩ := hv2.seven
      have hfk := likeK_at hp hq hx hy
      rw [HFD.out] at hfk
      obtain ⟨Z, hZ⟩ : ∃ Z, ordV x y = Z := ⟨_, rfl⟩
      rw [hZ] at hfk
      have HFK := Lib.hid hfk
      have r0 := cell_regrown (cell_at HBOXR.out rfl : wr.cell? ⟨b, 0, none⟩ = some (.slice (some ⟨a, off, none⟩) n c))
      have r1 := cell_regrown (cell_at HBOXR.out rfl : wr.cell? ⟨b, 1, none⟩ = some (.func (.func 90) #[] #[]))
      have r2 := cell_regrown (HCELLG.out m p hp)
      have r3 := cell_regrown (HCELLG.out k q hq)
      have d10 : ∀ d os, (grow (redrawn wr d) os).cell? ⟨a, off + p * 7, none⟩ = some (.int .i64 k1) := cell_regrown ((HKEEP.out ⟨a, off + (p * 7 + 0), none⟩ hSa).trans (hc1 0 (by omega)))
      have d11 : ∀ d os, (grow (redrawn wr d) os).cell? ⟨a, off + p * 7 + 1, none⟩ = some (.bool neg1) := cell_regrown ((HKEEP.out ⟨a, off + (p * 7 + 1), none⟩ hSa).trans (hc1 1 (by omega)))
      have d12 : ∀ d os, (grow (redrawn wr d) os).cell? ⟨a, off + p * 7 + 2, none⟩ = some (.slice A1 n1 c1) := cell_regrown ((HKEEP.out ⟨a, off + (p * 7 + 2), none⟩ hSa).trans (hc1 2 (by omega)))
      have d13 : ∀ d os, (grow (redrawn wr d) os).cell? ⟨a, off + p * 7 + 3, none⟩ = some (.int .i64 e1) := cell_regrown ((HKEEP.out ⟨a, off + (p * 7 + 3), none⟩ hSa).trans (hc1 3 (by omega)))
      have d14 : ∀ d os, (grow (redrawn wr d) os).cell? ⟨a, off + p * 7 + 4, none⟩ = some (.string t1) := cell_regrown ((HKEEP.out ⟨a, off + (p * 7 + 4), none⟩ hSa).trans (hc1 4 (by omega)))
      have d15 : ∀ d os, (grow (redrawn wr d) os).cell? ⟨a, off + p * 7 + 5, none⟩ = some (.slice LA1 ln1 lc1) := cell_regrown ((HKEEP.out ⟨a, off + (p * 7 + 5), none⟩ hSa).trans (hc1 5 (by omega)))
      have d16 : ∀ d os, (grow (redrawn wr d) os).cell? ⟨a, off + p * 7 + 6, none⟩ = some (.slice KA1 kn1 kc1) := cell_regrown ((HKEEP.out ⟨a, off + (p * 7 + 6), none⟩ hSa).trans (hc1 6 (by omega)))
      have d20 : ∀ d os, (grow (redrawn wr d) os).cell? ⟨a, off + q * 7, none⟩ = some (.int .i64 k2) := cell_regrown ((HKEEP.out ⟨a, off + (q * 7 + 0), none⟩ hSa).trans (hc2 0 (by omega)))
      have d21 : ∀ d os, (grow (redrawn wr d) os).cell? ⟨a, off + q * 7 + 1, none⟩ = some (.bool neg2) := cell_regrown ((HKEEP.out ⟨a, off + (q * 7 + 1), none⟩ hSa).trans (hc2 1 (by omega)))
      have d22 : ∀ d os, (grow (redrawn wr d) os).cell? ⟨a, off + q * 7 + 2, none⟩ = some (.slice A2 n2 c2) := cell_regrown ((HKEEP.out ⟨a, off + (q * 7 + 2), none⟩ hSa).trans (hc2 2 (by omega)))
      have d23 : ∀ d os, (grow (redrawn wr d) os).cell? ⟨a, off + q * 7 + 3, none⟩ = some (.int .i64 e2) := cell_regrown ((HKEEP.out ⟨a, off + (q * 7 + 3), none⟩ hSa).trans (hc2 3 (by omega)))
      have d24 : ∀ d os, (grow (redrawn wr d) os).cell? ⟨a, off + q * 7 + 4, none⟩ = some (.string t2) := cell_regrown ((HKEEP.out ⟨a, off + (q * 7 + 4), none⟩ hSa).trans (hc2 4 (by omega)))
      have d25 : ∀ d os, (grow (redrawn wr d) os).cell? ⟨a, off + q * 7 + 5, none⟩ = some (.slice LA2 ln2 lc2) := cell_regrown ((HKEEP.out ⟨a, off + (q * 7 + 5), none⟩ hSa).trans (hc2 5 (by omega)))
      have d26 : ∀ d os, (grow (redrawn wr d) os).cell? ⟨a, off + q * 7 + 6, none⟩ = some (.slice KA2 kn2 kc2) := cell_regrown ((HKEEP.out ⟨a, off + (q * 7 + 6), none⟩ hSa).trans (hc2 6 (by omega)))
      have cQ : ∀ d os, CallsIn Fence.wide 0 Tryz.prog 90 #[.agg #[.int .i64 k1, .bool neg1, .slice A1 n1 c1, .int .i64 e1, .string t1, .slice LA1 ln1 lc1, .slice KA1 kn1 kc1], .agg #[.int .i64 k2, .bool neg2, .slice A2 n2 c2, .int .i64 e2, .string t2, .slice LA2 ln2 lc2, .slice KA2 kn2 kc2]] (grow (redrawn wr d) os) fun e w'' => e = .returned (.int .i64 Z) ∧ ∃ p : Regrown, w'' = grow (redrawn wr p.d) p.os := fun d os => by
        have hbg := below_regrown wr d os
        have := compareO_c x y S _ _ (grow (redrawn wr d) os) (HF.out x (List.mem_of_getElem? hx)) (HF.out y (List.mem_of_getElem? hy)) (hv1.keep fun p hp => (hbg.cell (by have := HS.out _ hp; omega)).trans (HKEEP.out p hp)) (hv2.keep fun p hp => (hbg.cell (by have := HS.out _ hp; omega)).trans (HKEEP.out p hp)) (fun b hb => by have := HS.out _ hb; have := hbg.size; omega)
        rw [hZ] at this
        exact CallsIn.regrown_of (callsIn_wide.2 this)
      clear hZ hc1 hc2 h71 h72 hx hy hv1 hv2 hp hq
      gi_upto_region 5 with fail
      refine wpIn_region_quiet_below rfl (by kernel_rfl) (by kernel_rfl) ?_
      repeat
        (refine wpQuietIn_step (by first | quiet_asked_in | (go_simp; first | trivial | (intros; trivial))) (fun K hK => ?_)
         go_simp
         first
           | (refine hK _ ?_; clear hK K)
           | (apply Exists.intro
              refine ⟨fun _ => ?_, hK _ ?_⟩
              (exact ⟨rfl, cQ _ _⟩)
              clear hK K))
      refine wpQuietIn_nil ?_
      intro _ hw'
      obtain ⟨⟨dq, osq⟩, hw''⟩ := hw'
      subst hw''
      have hbg := below_regrown wr dq osq
      have hjr := HJ.out g _ _ _ HJK.out hbg
      have hkr : KeptS (fun k => k = b ∨ S k) (· = g) W1 (grow (redrawn wr dq) osq) := HKP.out.trans ⟨hbg.size, fun k hk => hbg.block k (by
        rcases hk with (h | h) | h
        · omega
        · have := HS.out _ h; omega
        · omega)⟩
      generalize (grow (redrawn wr dq) osq) = Wr at *
      have HJR := Lib.hid hjr
      have HKR := Lib.hid hkr
      clear hjr hkr cQ r0 r1 r2 r3 d10 d11 d12 d13 d14 d15 d16 d20 d21 d22 d23 d24 d25 d26
      by_cases hZ0 : Z = 0
      · subst hZ0
        have hfy : f (runF f k).1 k = true := by rw [HM.out, HFK.out]; rfl
        have hst := runF_yes hfy
        have HST := Lib.hid hst
        clear hfy hst
        gi_wp2_with fail
        refine ⟨⟨k + 1, m, by omega, by go_num, rfl, by show _ = _; rw [HST.out]; exact HM.out, by rw [HST.out]; exact HJR.out, HKR.out⟩, by simp [intOf]; omega⟩
      · have hZ1 : (Z == 0) = false := by rw [beq_eq_false_iff_ne]; exact hZ0
        have hfn : f (runF f k).1 k = false := by rw [HM.out, HFK.out]; exact hZ1
        have hst := runF_no hfn
        obtain ⟨rest, hrest⟩ := runG_next hkn hfn
        have hmk2 : m < k := by have := runF_begin HFF.out hfn; have := HM.out; omega
        rw [HM.out] at hst hrest
        obtain ⟨fn, tmps, assign, body, hy, hR⟩ := HY.out g _ (m, k) rest Wr HJR.out hrest
        have HST := Lib.hid hst
        have hmk3 : (m : Int) ≤ (k : Int) := by omega
        have hkn3 : (k : Int) ≤ (n : Int) := by omega
        have hnm : n ≠ m := by omega
        have hmn : m ≠ n := by omega
        unfold encG at hy
        dsimp only at hy
        clear hst hfn hrest
        gi_upto_region 7 with (refine ⟨rfl, ?_⟩; refine hR.mono ?_; rintro e W3 (⟨rfl, hJ3, hk3⟩ | ⟨rfl, hJx3⟩))
        · have HJ3 := Lib.hid hJ3
          have HK3 := Lib.hid (HKR.out.trans hk3)
          clear hJ3 hk3 hR hy
          gi_wp2_with fail
          refine ⟨⟨k + 1, k, by omega, by go_num, rfl, by show _ = _; rw [HST.out], by rw [HST.out]; exact HJ3.out, HK3.out⟩, by simp [intOf]; omega⟩
        · ((try simp only [Exit.inBlock, Exit.then]); refine bodyPost_ret (results_none rfl _ _ _) rfl ?_)
          exact ⟨⟨_, rfl⟩, g, .inr ⟨_, hJx3⟩⟩
    · have hlt : ¬ (k : Int) < (n : Int) := by omega
      obtain rfl : k = n := by omega
      by_cases hmn : m < k
      · have hm1 : (m : Int) < (k : Int) := by omega
        have hm0 : (0 : Int) ≤ (m : Int) := by omega
        have hmt : ((m : Int)).toNat = m := by omega
        have hm2 : (m : Int) ≤ (k : Int) := by omega
        have hnm : m ≠ k := by omega
        have hnm2 : k ≠ m := by omega
        have hrest : runG f k = (runF f k).2 ++ (m, k) :: [] := by
          unfold runG
          rw [if_pos (by rw [HM.out]; exact hmn), HM.out]
        obtain ⟨fn, tmps, assign, body, hy, hR⟩ := HY.out g _ (m, k) [] wr HJK.out hrest
        have HREST := Lib.hid hrest
        unfold encG at hy
        dsimp only at hy
        clear hrest
        gi_wp2_with (refine ⟨rfl, ?_⟩; refine hR.mono ?_; rintro e W3 (⟨rfl, hJ3, hk3⟩ | ⟨rfl, hJx3⟩))
        · go_end0
          refine ⟨⟨_, rfl⟩, g, .inl ?_⟩
          rw [HFD.out, HREST.out]; exact hJ3
        · go_end0
          exact ⟨⟨_, rfl⟩, g, .inr ⟨_, hJx3⟩⟩
      · have hm1 : ¬ (m : Int) < (k : Int) := by omega
        have hrest : runG f k = (runF f k).2 := by
          unfold runG
          rw [if_neg (by rw [HM.out]; exact hmn)]
        gi_wp2
        go_end0
        refine ⟨⟨_, rfl⟩, g, .inl ?_⟩
        rw [HFD.out, hrest]; exact HJK.out
end Go.Proofs.YtjjpagdnjafgaaaGreatDoor
