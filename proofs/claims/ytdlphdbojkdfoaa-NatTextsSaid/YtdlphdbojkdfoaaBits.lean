/-
  The two functions of math/bits that the code calls, off the shelf, at this seat's program; and what a limb's length says.
-/
import Derived.Shelf.Lay
import Derived.Shelf.Small.Bits
import Derived.Test.YtdlphdbojkdfoaaLimb
import Derived.Test.YtdlphdbojkdfoaaProg
set_option linter.unusedVariables false
set_option linter.unusedSimpArgs false
namespace Go.Proofs.Ytdlphdbojkdfoaa
open Go.Shelf

shelf_lay Lays.n128 Nm 128 at Try as lays128
shelf_lay Lays.n133 Nm 133 at Try as lays133

theorem Len32_c (x : Nat) (w : World) (h : x < 4294967296) : Calls Try.prog 74 #[.int .u32 (x : Int)] w fun e w' => e = .returned (.int .i64 (Lib.bitLen x : Int)) ∧ w' = w :=
  Any.bits_Len32 lays128 (x : Int) w (by omega) (by omega)
theorem LeadingZeros32_c (x : Nat) (w : World) (h : x < 4294967296) : Calls Try.prog 70 #[.int .u32 (x : Int)] w fun e w' => e = .returned (.int .i64 (32 - (Lib.bitLen x : Int))) ∧ w' = w :=
  Any.bits_LeadingZeros32 lays133 (x : Int) w (by omega) (by omega)
end Go.Proofs.Ytdlphdbojkdfoaa
