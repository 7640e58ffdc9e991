import Derived.Test.YtnnoaolceeendaaGreatDoorChecked
import Derived.Lib.Strings
import Derived.Lib.Slices
import Derived.Lib.Small
import Derived.Lib.Walk
import Derived.Lib.BitFns
namespace Go.Proofs.YtnnoaolceeendaaGreatDoor

theorem bitLen_log : ∀ (k x : Nat), x < 2 ^ k → k ≤ 64 → x ≠ 0 → Lib.bitLen x = x.log2 + 1
  | 0, x, h, _, h0 => by simp at h; omega
  | k + 1, x, h, hk, h0 => by
    have hx : x < 2 ^ 64 := Nat.lt_of_lt_of_le h (Nat.pow_le_pow_right (by decide) hk)
    rw [Lib.bitLen_half x h0 hx, Nat.log2_def]
    split
    · rename_i h2
      rw [bitLen_log k (x / 2) (by rw [Nat.pow_succ] at h; omega) (by omega) (by omega)]
      omega
    · have : x = 1 := by omega
      subst this
      rfl

theorem len_at {x b : Int} (K : Int) {k p : Nat} (y : Nat) (hK : K = (k : Int)) (h0 : 0 ≤ x) (h1 : x ≤ 18446744073709551615) (hp : (2 : Nat) ^ k = p) (hk : p ≤ x.toNat ∨ k = 0) (hy : y = x.toNat / p) (hk2 : y < 256) (hk3 : k ≤ 56) (hb : b = (y : Int)) :
    (K + ((Lib.len8 b + 9223372036854775808) % 18446744073709551616 - 9223372036854775808) + 9223372036854775808) % 18446744073709551616 - 9223372036854775808 = (Lib.bitLen x.toNat : Nat) := by
  have h3 : Lib.bitLen x.toNat = k + Lib.bitLen y := by
    rcases hk with h | h
    · rw [hy, ← hp]; exact Lib.bitLen_shift k x.toNat (by rw [hp]; exact h) (by omega)
    · subst h
      have hp1 : p = 1 := by simpa using hp.symm
      rw [hy, hp1, Nat.div_one, Nat.zero_add]
  have h4 : Lib.bitLen y ≤ 8 := Lib.bitLen_le8' (y : Int) (by omega) (by omega)
  have h5 : Lib.len8 b = (Lib.bitLen y : Nat) := by rw [hb]; exact Lib.len8_of (y : Int) (by omega) (by omega)
  rw [h5, h3]
  generalize Lib.bitLen y = z at *
  clear h3 h5 hk hp hy hb h0 h1
  subst hK
  omega

set_option maxHeartbeats 4000000 in
set_option maxRecDepth 100000 in
theorem len64_any (x : Int) (w : World) (h0 : 0 ≤ x) (h1 : x ≤ 18446744073709551615) :
    Calls Tryz.prog 124 #[.int .u64 x] w fun r w' => r = .returned (.int .i64 (Lib.bitLen x.toNat)) ∧ w' = w := by
  go_enter Tryz.func124, Tryz.ntmps124
  go_wp2
  all_goals (go_ret; refine ⟨congrArg Ending.returned (congrArg (Value.int IntKind.i64) ?_), rfl⟩)
  · exact len_at 56 (k := 56) (p := 72057594037927936) (x.toNat / 72057594037927936) rfl h0 h1 (by decide) (.inl (by omega)) rfl (by omega) (by decide) (by omega)
  · exact len_at 48 (k := 48) (p := 281474976710656) (x.toNat / 281474976710656) rfl h0 h1 (by decide) (.inl (by omega)) rfl (by omega) (by decide) (by omega)
  · exact len_at 40 (k := 40) (p := 1099511627776) (x.toNat / 1099511627776) rfl h0 h1 (by decide) (.inl (by omega)) rfl (by omega) (by decide) (by omega)
  · exact len_at 32 (k := 32) (p := 4294967296) (x.toNat / 4294967296) rfl h0 h1 (by decide) (.inl (by omega)) rfl (by omega) (by decide) (by omega)
  · exact len_at 24 (k := 24) (p := 16777216) (x.toNat / 16777216) rfl h0 h1 (by decide) (.inl (by omega)) rfl (by omega) (by decide) (by omega)
  · exact len_at 16 (k := 16) (p := 65536) (x.toNat / 65536) rfl h0 h1 (by decide) (.inl (by omega)) rfl (by omega) (by decide) (by omega)
  · exact len_at 8 (k := 8) (p := 256) (x.toNat / 256) rfl h0 h1 (by decide) (.inl (by omega)) rfl (by omega) (by decide) (by omega)
  · have := len_at 0 (k := 0) (p := 1) (b := x % 256) (x.toNat / 1) rfl h0 h1 (by decide) (.inr rfl) rfl (by omega) (by decide) (by omega)
    omega
end Go.Proofs.YtnnoaolceeendaaGreatDoor
