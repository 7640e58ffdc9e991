import Derived.Test.YtnnoaolceeendaaGreatDoorWhC
import Derived.Test.YtnnoaolceeendaaGreatDoorChecked
import Derived.WalkKit
import Derived.ProofKit
import Derived.Laws.Bits64
namespace Go.Proofs.YtnnoaolceeendaaGreatDoor
open Go.ChangeShapes Go.WideShapes Go.ChangeAt Go.RowKit

theorem un_bd (t : Int) : Wh.un t < 18446744073709551616 := by unfold Wh.un; omega
theorem wrap_un (t : Int) : IntKind.u64.wrap t = (Wh.un t : Nat) := by rw [IntKind.wrap_u64]; unfold Wh.un; omega
theorem xor_top {t : Int} (ht : Wh.IsT t) : bits .xor .u64 (IntKind.u64.wrap t) 9223372036854775808 = (Wh.rk t : Nat) := by
  rw [wrap_un, show (9223372036854775808 : Int) = ((2 ^ 63 : Nat) : Int) by decide, bits_xor_u64_nat _ _ (un_bd t) (by decide), Wh.flip_rk ht]

set_option maxHeartbeats 2000000 in
theorem digit_any (t : Int) (l : Nat) (w : World) (ht : Wh.IsT t) (h1 : l < 16) :
    Calls Tryz.prog 107 #[.int .i64 t, .int .i64 (l : Int)] w fun r w' => r = .returned (.int .i64 (Wh.dig l (Wh.rk t) : Nat)) ∧ w' = w := by
  have hx := xor_top ht
  have hd : wrap64 ((((Wh.rk t : Nat) : Int) / 2 ^ (l * 4)).tmod 16) = (Wh.dig l (Wh.rk t) : Nat) := by
    have e2 : (((Wh.rk t : Nat) : Int) / 2 ^ (l * 4)) = ((Wh.rk t / 16 ^ l : Nat) : Int) := by
      rw [Wh.pow16, Nat.mul_comm 4 l]
      simp
    rw [e2, Int.tmod_eq_emod_of_nonneg (Int.natCast_nonneg _)]
    have := Wh.dig_lt l (Wh.rk t)
    unfold Wh.dig at *
    unfold wrap64
    omega
  go_enter Tryz.func107, Tryz.ntmps107
  go_wp2
  go_ret
  exact ⟨congrArg Ending.returned (congrArg (Value.int .i64) hd), rfl⟩

end Go.Proofs.YtnnoaolceeendaaGreatDoor
