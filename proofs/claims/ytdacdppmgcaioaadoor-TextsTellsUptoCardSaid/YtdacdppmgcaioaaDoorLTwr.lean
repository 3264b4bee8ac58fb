/-
  Contract of written, over whatever closure writes.
-/
import Derived.Test.YtdacdppmgcaioaaDoorLTck
set_option linter.unusedVariables false
set_option linter.unusedSimpArgs false
namespace Go.Proofs.YtdacdppmgcaioaaDoor
open Go.RowKit Go.Lib

/-- What written tells of texts that are listed and of what is put. -/
def wrote (xs : List ByteArray) (out : List UInt8) : ByteArray × Int := if errX xs = 0 then tell out else (⟨#[]⟩, 61)
theorem wrote_ok {xs : List ByteArray} {out : List UInt8} (h : errX xs = 0) : wrote xs out = tell out := if_pos h
theorem wrote_no {xs : List ByteArray} {out : List UInt8} (h : errX xs = 61) : wrote xs out = (⟨#[]⟩, 61) := if_neg (by omega)
/-- A closure that puts out on a sheet. -/
def Puts (fn : Nat) (caps : Array Value) (B : Nat) (w : World) (out : List UInt8) : Prop :=
  ∀ pb W, B ≤ pb → Sh B pb [] W → Below B w W → Calls Tryd.prog fn (#[shP pb] ++ caps) W fun e W' => e = .returned (.tuple #[]) ∧ Sh B pb out W' ∧ Mid B (fun k => B ≤ k) W W'
set_option maxHeartbeats 2000000 in
set_option maxRecDepth 100000 in
theorem written_c {fn : Nat} {caps : Array Value} {A : Option Addr} {c : Nat} {xs : List ByteArray} {out : List UInt8} (w : World) (hT : Tabs w) (hx : RdX w w.heap.size A xs) (hs : ∀ x ∈ xs, x.size ≤ 140737488355328) (hn : xs.length ≤ 9223372036854775806)
    (hcf : ∀ (ar : Array Value) (W : World), (callFunc fn ar).run Tryd.prog W = .ok (.enter fn ar) W) (hp : errX xs = 0 → Puts fn caps w.heap.size w out) :
    Calls Tryd.prog 37 #[.func (.func fn) #[] caps, .slice A xs.length c] w fun e w' => e = .returned (.tuple #[.string (wrote xs out).1, .int .i64 (wrote xs out).2]) ∧ Below w.heap.size w w' := by
  have hck := check_c (c := c) w hT hx hs hn
  obtain ⟨B, hB⟩ : ∃ B, w.heap.size = B := ⟨_, rfl⟩
  obtain ⟨n, hnl⟩ : ∃ n, xs.length = n := ⟨_, rfl⟩
  rw [hB] at hck hp ⊢
  rw [hnl] at hck ⊢
  obtain ⟨E, hE⟩ : ∃ E, errX xs = E := ⟨_, rfl⟩
  have hc := errX_cases xs
  rw [hE] at hck hc
  have HE := Lib.hid hE
  have HP := Lib.hid hp
  have HB := Lib.hid hB
  have HC := Lib.hid hck
  clear hT hx hs hB hck hp hnl hn hE
  rcases hc with rfl | rfl
  · rw [wrote_ok HE.out]
    go_enter Tryd.func37, Tryd.ntmps37
    go_wp2_with fail
    refine HC.out.mono ?_
    rintro e w1 ⟨rfl, hb1⟩
    obtain ⟨pb, hpb⟩ : ∃ b, w1.heap.size = b := ⟨_, rfl⟩
    have hBp : B ≤ pb := by have := hb1.size; have := HB.out; omega
    have hnew := World.alloc_heap_new w1 (shO (.pointer none) (.slice none 0 0) false)
    have hb2 : Below B w (w1.alloc (shO (.pointer none) (.slice none 0 0) false)) := hb1.alloc (by omega) _
    have hs2 : (w1.alloc (shO (.pointer none) (.slice none 0 0) false)).heap.size = pb + 1 := by rw [World.size_alloc, hpb]
    rw [hpb] at hnew
    have hS : Sh B pb [] (w1.alloc (shO (.pointer none) (.slice none 0 0) false)) := ⟨[], false, ⟨hBp, ⟨_, _, .inl rfl, hnew, ⟨rfl, .inl ⟨rfl, rfl⟩⟩⟩⟩, by simp, .inl ⟨rfl, rfl⟩⟩
    have hcl := HP.out HE.out pb _ hBp hS hb2
    have HCL := Lib.hid hcl
    have HB2 := Lib.hid hb2
    have HS2 := Lib.hid hs2
    clear hcl hb2 hS hnew hb1 hs2
    go_upto_region 5 with fail
    try rw [hpb]
    have HPB := Lib.hid hpb
    clear hpb
    generalize (w1.alloc (shO (.pointer none) (.slice none 0 0) false)) = W2 at *
    go_wp2_with fail
    refine HCL.out.mono ?_
    rintro e w3 ⟨rfl, hS3, hM3⟩
    have hb3 : Below B w w3 := HB2.out.trans (hM3.below (by have := HS2.out; omega) (fun k hk h => by omega))
    have htold := told_c w3 hS3
    have hsz3 : B ≤ w3.heap.size := by have := hM3.size; have := HS2.out; omega
    have HT3 := Lib.hid htold
    have HB3 := Lib.hid hb3
    clear hS3 hM3 hb3 htold
    go_wp2_with fail
    refine HT3.out.mono ?_
    rintro e w4 ⟨rfl, hM4⟩
    have hb4 : Below B w w4 := HB3.out.trans (hM4.below hsz3 (fun k hk h => h))
    have HB4 := Lib.hid hb4
    clear hM4 hb4
    go_wp2_with fail
    go_ret2
    exact ⟨rfl, HB4.out⟩
  · rw [wrote_no HE.out]
    go_enter Tryd.func37, Tryd.ntmps37
    go_wp2_with fail
    refine HC.out.mono ?_
    rintro e w1 ⟨rfl, hb1⟩
    have HB1 := Lib.hid hb1
    clear hb1
    go_wp2_with fail
    go_ret2
    exact ⟨rfl, HB1.out⟩
end Go.Proofs.YtdacdppmgcaioaaDoor
