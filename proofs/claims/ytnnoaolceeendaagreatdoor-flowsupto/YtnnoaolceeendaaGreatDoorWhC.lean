import Derived.Test.YtnnoaolceeendaaGreatDoorWhB
namespace Go.Proofs.YtnnoaolceeendaaGreatDoor.Wh

theorem xor_zero {a b : Nat} : a ^^^ b = 0 ↔ a = b := by
  constructor
  · intro h
    have h1 : (a ^^^ b) ^^^ b = a := by rw [Nat.xor_assoc, Nat.xor_self, Nat.xor_zero]
    rw [h, Nat.zero_xor] at h1
    exact h1.symm
  · rintro rfl
    exact Nat.xor_self a

theorem pow16 (l : Nat) : 16 ^ l = 2 ^ (4 * l) := by rw [show (16 : Nat) = 2 ^ 4 from rfl, ← Nat.pow_mul]

theorem xor_shift {a b k : Nat} : (a ^^^ b) / 2 ^ k = 0 ↔ a / 2 ^ k = b / 2 ^ k := by
  rw [← Nat.shiftRight_eq_div_pow, ← Nat.shiftRight_eq_div_pow, ← Nat.shiftRight_eq_div_pow, Nat.shiftRight_xor_distrib, xor_zero]

/-- The level by the length of what differs. -/
def levF (a b : Nat) : Nat := (a ^^^ b).log2 / 4

theorem levF_is {a b : Nat} (h : a ≠ b) : LevIs (levF a b) a b := by
  have hx : a ^^^ b ≠ 0 := fun e => h (xor_zero.1 e)
  have h1 := Nat.log2_self_le hx
  have h2 := Nat.lt_log2_self (n := a ^^^ b)
  unfold levF LevIs
  rw [pow16, pow16]
  constructor
  · rw [← xor_shift]
    refine Nat.div_eq_of_lt (Nat.lt_of_lt_of_le h2 (Nat.pow_le_pow_right (by decide) (by omega)))
  · intro e
    have h3 := xor_shift.2 e
    have h4 : 2 ^ (4 * ((a ^^^ b).log2 / 4)) ≤ a ^^^ b := Nat.le_trans (Nat.pow_le_pow_right (by decide) (by omega)) h1
    have h5 := Nat.div_pos h4 (Nat.pow_pos (by decide))
    omega

theorem levF_lt {a b n : Nat} (h : a ≠ b) (ha : a < 16 ^ n) (hb : b < 16 ^ n) : levF a b < n := by
  have hl := levF_is h
  rcases Nat.lt_or_ge (levF a b) n with h' | h'
  · exact h'
  · exfalso
    apply hl.2
    have h1 := Nat.pow_le_pow_right (show 0 < 16 by decide) h'
    rw [Nat.div_eq_of_lt (Nat.lt_of_lt_of_le ha h1), Nat.div_eq_of_lt (Nat.lt_of_lt_of_le hb h1)]

/-! ### Times by their rank -/
def rk (t : Int) : Nat := (t + 9223372036854775808).toNat
def IsT (t : Int) : Prop := -9223372036854775808 ≤ t ∧ t ≤ 9223372036854775807

theorem rk_lt {s t : Int} (hs : IsT s) (ht : IsT t) : rk s < rk t ↔ s < t := by unfold rk IsT at *; omega
theorem rk_le {s t : Int} (hs : IsT s) (ht : IsT t) : rk s ≤ rk t ↔ s ≤ t := by unfold rk IsT at *; omega
theorem rk_inj {s t : Int} (hs : IsT s) (ht : IsT t) (h : rk s = rk t) : s = t := by unfold rk IsT at *; omega
theorem rk_bd {t : Int} (ht : IsT t) : rk t < 16 ^ 16 := by
  have h : (16 : Nat) ^ 16 = 18446744073709551616 := by decide
  rw [h]
  unfold rk IsT at *
  omega

/-- What a time is as 64 bits without a sign. -/
def un (t : Int) : Nat := (t % 18446744073709551616).toNat

theorem flip_lt {u : Nat} (h : u < 2 ^ 63) : u ^^^ 2 ^ 63 = 2 ^ 63 + u := by
  apply Nat.eq_of_testBit_eq
  intro i
  rw [Nat.testBit_xor, Nat.testBit_two_pow]
  rcases Nat.lt_trichotomy i 63 with hi | hi | hi
  · rw [Nat.testBit_two_pow_add_gt (by omega)]
    have : decide (63 = i) = false := by simp; omega
    rw [this, Bool.xor_false]
  · subst hi
    rw [Nat.testBit_two_pow_add_eq]
    simp
  · have h1 : u.testBit i = false := Nat.testBit_lt_two_pow (Nat.lt_of_lt_of_le h (Nat.pow_le_pow_right (by decide) (by omega)))
    have h2 : (2 ^ 63 + u).testBit i = false := Nat.testBit_lt_two_pow (Nat.lt_of_lt_of_le (show 2 ^ 63 + u < 2 ^ 64 by omega) (Nat.pow_le_pow_right (by decide) (by omega)))
    have h3 : decide (63 = i) = false := by simp; omega
    rw [h1, h2, h3]
    rfl

/-- The sign's bit turned over is the rank. -/
theorem flip_rk {t : Int} (ht : IsT t) : un t ^^^ 2 ^ 63 = rk t := by
  unfold IsT at ht
  by_cases h0 : 0 ≤ t
  · have h1 : un t < 2 ^ 63 := by unfold un; omega
    rw [flip_lt h1]
    unfold un rk
    omega
  · have h1 : rk t < 2 ^ 63 := by unfold rk; omega
    have h2 : un t = 2 ^ 63 + rk t := by unfold un rk; omega
    rw [h2, ← flip_lt h1, Nat.xor_assoc, Nat.xor_self, Nat.xor_zero]

theorem xor_rk {s t : Int} (hs : IsT s) (ht : IsT t) : un s ^^^ un t = rk s ^^^ rk t := by
  rw [← flip_rk hs, ← flip_rk ht, Nat.xor_assoc, Nat.xor_comm (2 ^ 63) (un t ^^^ 2 ^ 63), Nat.xor_assoc, Nat.xor_self, Nat.xor_zero]
end Go.Proofs.YtnnoaolceeendaaGreatDoor.Wh
