import Derived.Test.YtnnoaolceeendaaGreatDoorPgA
import Derived.Test.YtnnoaolceeendaaGreatDoorPgL
namespace Go.Proofs.YtnnoaolceeendaaGreatDoor
open Go.ChangeShapes Go.WideShapes Go.ChangeAt Go.RowKit

theorem xor_bd {a b : Nat} (ha : a < 18446744073709551616) (hb : b < 18446744073709551616) : a ^^^ b < 18446744073709551616 := Nat.xor_lt_two_pow (n := 64) (by omega) (by omega)

theorem lev_len {s t : Int} (hs : Wh.IsT s) (ht : Wh.IsT t) (hne : s ≠ t) :
    bits .xor .u64 (IntKind.u64.wrap s) (IntKind.u64.wrap t) = ((Wh.rk s ^^^ Wh.rk t : Nat) : Int) ∧ Lib.bitLen (Wh.rk s ^^^ Wh.rk t) = (Wh.rk s ^^^ Wh.rk t).log2 + 1 ∧ (Wh.rk s ^^^ Wh.rk t) < 18446744073709551616 ∧ (Wh.rk s ^^^ Wh.rk t).log2 < 64 := by
  have hx : Wh.rk s ^^^ Wh.rk t ≠ 0 := fun h => hne (Wh.rk_inj hs ht (Wh.xor_zero.1 h))
  have h1 : Wh.un s ^^^ Wh.un t = Wh.rk s ^^^ Wh.rk t := Wh.xor_rk hs ht
  have h2 : Wh.rk s ^^^ Wh.rk t < 18446744073709551616 := by rw [← h1]; exact xor_bd (un_bd s) (un_bd t)
  refine ⟨?_, bitLen_log 64 _ h2 (Nat.le_refl _) hx, h2, (Nat.log2_lt hx).2 h2⟩
  rw [wrap_un, wrap_un, bits_xor_u64_nat _ _ (un_bd s) (un_bd t), h1]

set_option maxHeartbeats 2000000 in
theorem level_any (s t : Int) (w : World) (hs : Wh.IsT s) (ht : Wh.IsT t) (hne : s ≠ t) :
    Calls Tryz.prog 106 #[.int .i64 s, .int .i64 t] w fun r w' => r = .returned (.int .i64 (Wh.levF (Wh.rk s) (Wh.rk t) : Nat)) ∧ w' = w := by
  obtain ⟨h1, h2, h3, h4⟩ := lev_len hs ht hne
  have hl : Wh.levF (Wh.rk s) (Wh.rk t) = (Wh.rk s ^^^ Wh.rk t).log2 / 4 := rfl
  generalize Wh.rk s ^^^ Wh.rk t = x at *
  have HL := hl
  have h5 := len64_any (x : Int)
  go_enter Tryz.func106, Tryz.ntmps106
  go_wp2_with (go_at_call 124; refine (h5 _ (by omega) (by omega)).mono ?_; rintro r w9 ⟨rfl, rfl⟩; rw [Int.toNat_natCast, h2])
  go_ret
  have he : (x.log2 : Int) / 4 = (Wh.levF (Wh.rk s) (Wh.rk t) : Nat) := by rw [hl]; omega
  exact ⟨congrArg Ending.returned (congrArg (Value.int .i64) he), rfl⟩

set_option maxHeartbeats 2000000 in
theorem less_any (t s : Int) (w : World) (ht : Wh.IsT t) (h0 : 0 ≤ s) (h1 : s ≤ 1000) :
    Calls Tryz.prog 91 #[.int .i64 t, .int .i64 s] w fun r w' => r = .returned (.int .i64 (if t < -9223372036854775808 + s then -9223372036854775808 else t - s)) ∧ w' = w := by
  unfold Wh.IsT at ht
  go_enter Tryz.func91, Tryz.ntmps91
  have he : max t (-9223372036854775808 + s) - s = (if t < -9223372036854775808 + s then -9223372036854775808 else t - s) := by split <;> omega
  go_wp2
  all_goals (go_ret; exact ⟨rfl, rfl⟩)
end Go.Proofs.YtnnoaolceeendaaGreatDoor
