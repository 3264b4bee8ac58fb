import Derived.Test.YtkigpbkkhgabeaaGreatDoorYWes
import Derived.Lib.OthersKept
import Derived.Laws.Runes
import Derived.WalkMore
import Derived.Laws.BitsAllLaws
import Derived.Deep.Cut
set_option linter.unusedVariables false
set_option linter.unusedSimpArgs false
namespace Go.Proofs.YtkigpbkkhgabeaaGreatDoor
open Go.RowKit Go.Lib
abbrev s7 : ByteArray:=⟨#[34,92,8,9,10,12,13]⟩
theorem dec7 {p : Nat} (h : p < 7) : ∃ v,Utf8.decode s7 p = (v,1) ∧ v < 128:=by
 have hc : p = 0 ∨ p = 1 ∨ p = 2 ∨ p = 3 ∨ p = 4 ∨ p = 5 ∨ p = 6:=by omega
 rcases hc with rfl | rfl | rfl | rfl | rfl | rfl | rfl
 ·exact ⟨34,by kernel_rfl,by decide⟩
 ·exact ⟨92,by kernel_rfl,by decide⟩
 ·exact ⟨8,by kernel_rfl,by decide⟩
 ·exact ⟨9,by kernel_rfl,by decide⟩
 ·exact ⟨10,by kernel_rfl,by decide⟩
 ·exact ⟨12,by kernel_rfl,by decide⟩
 ·exact ⟨13,by kernel_rfl,by decide⟩
set_option maxRecDepth 100000 in
set_option maxHeartbeats 1000000 in
theorem ixErr_c (w : World) : Calls Tryz.prog 88 #[.string s7,.int .i32 65533] w fun e w' => e = .returned (.int .i64 (-1)) ∧ Below w.heap.size w w':=by
 go_enter Tryz.func88,Tryz.ntmps88
 go_wp2_with fail
 go_loopw [] (fun wr => ∃ pos,pos ≤ 7 ∧ wr.heap[w.heap.size]? = some (.stringIter s7 pos) ∧ Below w.heap.size w wr) (fun wr => 7 - wr.iterPos w.heap.size)
 case atStart =>
  refine ⟨0,by omega,?_,?_⟩
  ·have:=World.iter_heap w s7 0
   simpa using this
  ·first | exact (Below.refl _ _).alloc (Nat.le_refl _) _ | exact Below.iter (Below.refl _ _) (Nat.le_refl _) _ _ | (trace_state; fail)
 case round =>
  obtain ⟨pos,hp,hit,hb⟩:=hrel
  by_cases h7 : pos < 7
  ·obtain ⟨v,hdv,hv⟩:=dec7 h7
   have hnx : ∀ ty,(Instr.next (.pointer (some ⟨w.heap.size,0,none⟩)) true ty).run Tryz.prog wr = _:=fun ty => Lib.run_next_any_at wr w.heap.size s7 pos ty hit h7
   rw [hdv] at hnx
   have hit2:=Lib.iterAt_heap wr w.heap.size s7 pos (pos + 1) hit
   have hb2:=Lib.below_iterAt hb (k:=w.heap.size) (Nat.le_refl _) s7 (pos + 1)
   have hne : ((v : Int) == 65533) = false:=by simp; omega
   have hmp : wr.iterPos w.heap.size = pos:=by simp [World.iterPos,hit]
   have HIT2:=Lib.hid hit2
   have HB2:=Lib.hid hb2
   clear hit2 hb2 hb hit
   go_wp2_with fail
   go_roundw
   case rel => exact ⟨pos + 1,by omega,HIT2.out,HB2.out⟩
   case measure => rw [hmp]; simp [World.iterPos,HIT2.out]; omega
  ·have hnx : ∀ ty,(Instr.next (.pointer (some ⟨w.heap.size,0,none⟩)) true ty).run Tryz.prog wr = _:=fun ty => Lib.run_next_end_at wr w.heap.size s7 pos ty hit (by show ¬ pos < 7; exact h7)
   have HB:=Lib.hid hb
   clear hb hit
   go_wp2_with fail
   go_ret
   exact ⟨rfl,HB.out⟩
theorem ix_high {x : UInt8} (hx : 128 ≤ x.toNat) (l : List UInt8) (h : ∀ y ∈ l,y.toNat < 128) : Lib.indexByte l ((x.toNat : Int).toNat.toUInt8) = -1:=by
 induction l with
 | nil => rfl
 | cons y l ih =>
  have hy:=h y (by simp)
  have e : (y == ((x.toNat : Int).toNat.toUInt8)) = false:=by
   rw [beq_eq_false_iff_ne]
   rintro e
   have:=congrArg UInt8.toNat e
   rw [show ((x.toNat : Int).toNat.toUInt8) = x from by simp] at this
   omega
  unfold Lib.indexByte
  rw [e,ih (fun z hz => h z (by simp [hz]))]
  rfl
theorem quiet_v {P : Program} {f : FuncId} {args : Array Value} {w : World} {n : Nat} {v : Value}
  {a : Nat} (h : Calls P f args (w.drewN (a + n)) fun e w' => e = .returned v ∧ w' = w.drewN (a + n)) : Calls P f args (w.drewN (a + n)) fun e w'' => e = .returned v ∧ ∃ m,w'' = w.drewN (a + m) :=
 h.mono fun _ _ ⟨he,hm⟩ => ⟨he,n,hm⟩
set_option maxRecDepth 100000 in
set_option maxHeartbeats 1000000 in
theorem ixHigh_c (c : Int) (hc : isCh c) (h1 : 128 ≤ c) (h2 : c ≠ 65533) (w : World) : Calls Tryz.prog 88 #[.string s7,.int .i32 c] w fun e w' => e = .returned (.int .i64 (-1)) ∧ Below w.heap.size w w':=by
 have hv : Lib.validRune c = true:=by
  unfold isCh at hc
  unfold Lib.validRune
  simp
  omega
 have hch:=hc
 unfold isCh at hch
 have hval : Utf8.valid c = true:=by
  unfold Utf8.valid
  simp
  omega
 obtain ⟨E,hE⟩ : ∃ E,Utf8.encode c = E:=⟨_,rfl⟩
 have hfa:=encode_facts c hval h1
 have hcv : ∀ w1 : World,(convert 21 9 (.int .i32 c)).run Tryz.prog w1 = .ok (.string (Utf8.encode c)) w1:=fun w1 => run_convert_int_string w1 _ _ _ _ (by rw [Tryz.underlying21]; rfl) Tryz.underlying9
 rw [hE] at hcv hfa
 obtain ⟨hl1,hl2,hlast⟩:=hfa
 have hh0 : (0 : Int) ≤ c:=by omega
 have hh1 : ¬ c < 128:=by omega
 have hh2 : (c == 65533) = false:=by simpa using h2
 clear hE hval hch hc h1 h2
 have hw : IntKind.i64.wrap ((E.size : Int) - 1) = ((E.size - 1 : Nat) : Int):=by rw [IntWalk.i64_in _ (by omega)]; omega
 obtain ⟨n,hn⟩ : ∃ n,E.size - 1 = n:=⟨_,rfl⟩
 have hlast:=hlast (by omega)
 have hidx : ∀ h,128 ≤ (E[n]'h).toNat:=by rw [← hn]; exact fun _ => hlast
 rw [hn] at hw
 have hEs : E.size = n + 1:=by omega
 have hn7 : (n : Int) < 7:=by omega
 clear hlast
 go_enter Tryz.func88,Tryz.ntmps88
 go_wp2_with fail
 refine (Tryz.utf8_ValidRune c w).mono ?_
 rw [hv]
 rintro e w1 ⟨rfl,rfl⟩
 go_wp2_with fail
 go_step3
 go_wp2_with fail
 go_loopw [9,10] (fun i f wr => i = .int .i64 (n : Int) ∧ f = .int .i64 0 ∧ wr = w1) (fun _ _ _ => 0)
 case atStart => exact ⟨rfl,rfl,rfl⟩
 case round =>
  obtain ⟨rfl,rfl,rfl⟩:=hrel
  have hn3 : n = 1 ∨ n = 2 ∨ n = 3:=by omega
  have hb9 : bits = bits:=rfl
  rcases hn3 with rfl | rfl | rfl
  ·have hsz : (1 : Int) < (E.size : Int):=by omega
   have hw2 : IntKind.i64.wrap 2 = 2:=by kernel_rfl
   have hne : ∀ (h1 : 1 < s7.size) (h2 : 1 < E.size),(((s7[1]'h1).toNat : Int) != ((E[1]'h2).toNat : Int)) = true:=fun h1 h2 => by
    have a:=hidx h2
    have b : (s7[1]'h1).toNat = 92:=rfl
    rw [b]
    simp
    omega
   have hix : ∀ (h : 1 < E.size) (W : World),Calls Tryz.prog 120 #[.string (s7.extract 2 7),.int .u8 ((E[1]'h).toNat : Int)] W fun e w' => e = .returned (.int .i64 (-1)) ∧ w' = W:=fun h W => by
    have hi:=Tryz.strings_IndexByte (s7.extract 2 7) ((E[1]'h).toNat : Int) W
    rw [ix_high (hidx h) _ (fun y hy => by revert y; decide)] at hi
    exact hi
   go_wp2_with fail
   go_step3
   go_wp2_with fail
   go_quiet (fail)
   go_wp2_with fail
   go_quiet ((go_at_call 120; exact quiet_v (hix _ _)))
   go_wp2_with fail
   simp +zetaDelta only [Exit.noGoto_ret,Exit.inBlock,Exit.then]
   go_ret
   exact ⟨rfl,⟨rfl,rfl,rfl,Nat.le_refl _,fun _ _ => rfl⟩⟩
  ·have hsz : (2 : Int) < (E.size : Int):=by omega
   have hw2 : IntKind.i64.wrap 3 = 3:=by kernel_rfl
   have hne : ∀ (h1 : 2 < s7.size) (h2 : 2 < E.size),(((s7[2]'h1).toNat : Int) != ((E[2]'h2).toNat : Int)) = true:=fun h1 h2 => by
    have a:=hidx h2
    have b : (s7[2]'h1).toNat = 8:=rfl
    rw [b]
    simp
    omega
   have hix : ∀ (h : 2 < E.size) (W : World),Calls Tryz.prog 120 #[.string (s7.extract 3 7),.int .u8 ((E[2]'h).toNat : Int)] W fun e w' => e = .returned (.int .i64 (-1)) ∧ w' = W:=fun h W => by
    have hi:=Tryz.strings_IndexByte (s7.extract 3 7) ((E[2]'h).toNat : Int) W
    rw [ix_high (hidx h) _ (fun y hy => by revert y; decide)] at hi
    exact hi
   go_wp2_with fail
   go_step3
   go_wp2_with fail
   go_quiet (fail)
   go_wp2_with fail
   go_quiet ((go_at_call 120; exact quiet_v (hix _ _)))
   go_wp2_with fail
   simp +zetaDelta only [Exit.noGoto_ret,Exit.inBlock,Exit.then]
   go_ret
   exact ⟨rfl,⟨rfl,rfl,rfl,Nat.le_refl _,fun _ _ => rfl⟩⟩
  ·have hsz : (3 : Int) < (E.size : Int):=by omega
   have hw2 : IntKind.i64.wrap 4 = 4:=by kernel_rfl
   have hne : ∀ (h1 : 3 < s7.size) (h2 : 3 < E.size),(((s7[3]'h1).toNat : Int) != ((E[3]'h2).toNat : Int)) = true:=fun h1 h2 => by
    have a:=hidx h2
    have b : (s7[3]'h1).toNat = 9:=rfl
    rw [b]
    simp
    omega
   have hix : ∀ (h : 3 < E.size) (W : World),Calls Tryz.prog 120 #[.string (s7.extract 4 7),.int .u8 ((E[3]'h).toNat : Int)] W fun e w' => e = .returned (.int .i64 (-1)) ∧ w' = W:=fun h W => by
    have hi:=Tryz.strings_IndexByte (s7.extract 4 7) ((E[3]'h).toNat : Int) W
    rw [ix_high (hidx h) _ (fun y hy => by revert y; decide)] at hi
    exact hi
   go_wp2_with fail
   go_step3
   go_wp2_with fail
   go_quiet (fail)
   go_wp2_with fail
   go_quiet ((go_at_call 120; exact quiet_v (hix _ _)))
   go_wp2_with fail
   simp +zetaDelta only [Exit.noGoto_ret,Exit.inBlock,Exit.then]
   go_ret
   exact ⟨rfl,⟨rfl,rfl,rfl,Nat.le_refl _,fun _ _ => rfl⟩⟩
theorem and1023 (x : Nat) (h : x < 2147483648) : bits .and .i32 (x : Int) 1023 = ((x % 1024 : Nat) : Int):=by
 show IntKind.i32.wrap ((BitVec.ofInt 32 (x : Int) &&& BitVec.ofInt 32 ((1023 : Nat) : Int)).toNat : Int) = _
 rw [BitVec.toNat_and,ofInt_u32 x (by omega),ofInt_u32 1023 (by omega),show x &&& 1023 = x % 1024 from Nat.and_two_pow_sub_one_eq_mod x 10]
 exact IntWalk.i32_in _ (by omega)
theorem str_app (a b : List UInt8) : (⟨a.toArray⟩ : ByteArray) ++ ⟨b.toArray⟩ = ⟨(a ++ b).toArray⟩:=by
 apply ByteArray.ext
 rw [ByteArray.data_append]
 simp
theorem ix7_c (c : Int) (hc : isCh c) (h1 : 128 ≤ c) (w : World) : Calls Tryz.prog 88 #[.string s7,.int .i32 c] w fun e w' => e = .returned (.int .i64 (-1)) ∧ Below w.heap.size w w':=by
 by_cases h : c = 65533
 ·subst h; exact ixErr_c w
 ·exact ixHigh_c c hc h1 h w
set_option maxRecDepth 100000 in
set_option maxHeartbeats 1000000 in
theorem escHigh_c (c : Int) (hc : isCh c) (h1 : 128 ≤ c) (w : World) (ht : w.cell? ⟨5,15,none⟩ = some (.int .u8 4)) :
  Calls Tryz.prog 56 #[.int .i32 c] w fun e w' => e = .returned (.string ⟨(quoteA c).toArray⟩) ∧ Below w.heap.size w w':=by
 have hix:=ix7_c c hc h1 w
 have htb : ∀ w',Below w.heap.size w w' → w'.cell? ⟨5,15,none⟩ = some (.int .u8 4):=fun w' hb => (hb.cell (p:=⟨5,15,none⟩) (cell_lt ht)).trans ht
 have hch:=hc
 unfold isCh at hch
 by_cases hs : c ≤ 65535
 ·obtain ⟨n,rfl⟩ : ∃ n : Nat,c = (n : Int):=⟨c.toNat,by omega⟩
  have hq : quoteA (n : Int) = codedL n:=by
   unfold quoteA
   rw [if_neg (by omega),if_pos (by omega)]
   rfl
  have hcd : ∀ w',Below w.heap.size w w' → Calls Tryz.prog 89 #[.int .i32 (n : Int)] w' fun e w'' => e = .returned (.string ⟨(codedL n).toArray⟩) ∧ Below w'.heap.size w' w'':=fun w' hb => pcoded_c n (by omega) w' (htb w' hb)
  rw [hq]
  clear hq hch hc
  go_enter Tryz.func56,Tryz.ntmps56
  go_wp2_with fail
  refine hix.mono ?_
  rintro e w1 ⟨rfl,hb1⟩
  go_wp2_with fail
  refine (hcd w1 hb1).mono ?_
  rintro e w2 ⟨rfl,hb2⟩
  go_wp2_with fail
  go_ret
  exact ⟨rfl,hb1.trans (hb2.mono hb1.size)⟩
 ·obtain ⟨x,hxc⟩ : ∃ x : Nat,c = (x : Int) + 65536:=⟨(c - 65536).toNat,by omega⟩
  have hx : x < 1048576:=by omega
  have hq : quoteA c = codedL (55296 + x / 1024) ++ codedL (56320 + x % 1024):=by
   unfold quoteA
   rw [if_neg (by omega),if_neg (by omega),show c.toNat - 65536 = x by omega]
  have hcd : ∀ (n : Nat) (w' : World),n < 65536 → Below w.heap.size w w' → Calls Tryz.prog 89 #[.int .i32 (n : Int)] w' fun e w'' => e = .returned (.string ⟨(codedL n).toArray⟩) ∧ Below w'.heap.size w' w'':=fun n w' hn hb => pcoded_c n hn w' (htb w' hb)
  rw [hq]
  clear hq hch hc
  have hw1 : IntKind.i32.wrap (c - 65536) = (x : Int):=by rw [IntWalk.i32_in _ (by omega)]; omega
  have hand : bits BinOp.and IntKind.i32 (x : Int) 1023 = ((x % 1024 : Nat) : Int):=by
   exact and1023 x (by omega)
  have hw2 : IntKind.i32.wrap (55296 + (x : Int) / 1024) = ((55296 + x / 1024 : Nat) : Int):=by rw [IntWalk.i32_in _ (by omega)]; omega
  have hw3 : IntKind.i32.wrap (56320 + ((x % 1024 : Nat) : Int)) = ((56320 + x % 1024 : Nat) : Int):=by rw [IntWalk.i32_in _ (by omega)]; omega
  obtain ⟨r,hr⟩ : ∃ r,x % 1024 = r:=⟨_,rfl⟩
  obtain ⟨a,ha⟩ : ∃ a,55296 + x / 1024 = a:=⟨_,rfl⟩
  obtain ⟨b,hb⟩ : ∃ b,56320 + r = b:=⟨_,rfl⟩
  rw [hr,hb] at hw3
  rw [hr] at hand
  rw [ha] at hw2
  rw [ha,hr,hb]
  have hsml : ¬ c ≤ 65535:=hs
  have ha6 : a < 65536:=by omega
  have hb6 : b < 65536:=by omega
  clear hr ha hb hs h1 hxc
  go_enter Tryz.func56,Tryz.ntmps56
  go_wp2_with fail
  refine hix.mono ?_
  rintro e w1 ⟨rfl,hb1⟩
  go_wp2_with fail
  refine (hcd a w1 ha6 hb1).mono ?_
  rintro e w2 ⟨rfl,hb2⟩
  go_wp2_with fail
  refine (hcd b w2 hb6 (hb1.trans (hb2.mono hb1.size))).mono ?_
  rintro e w3 ⟨rfl,hb3⟩
  go_wp2_with fail
  go_ret
  refine ⟨?_,(hb1.trans (hb2.mono hb1.size)).trans (hb3.mono (by have:=hb1.size; have:=hb2.size; omega))⟩
  rw [str_app]; rfl
end Go.Proofs.YtkigpbkkhgabeaaGreatDoor
