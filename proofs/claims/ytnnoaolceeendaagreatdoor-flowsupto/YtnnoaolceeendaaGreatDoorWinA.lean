/-! Plain mathematics of the windows that have a time: nothing of the program. -/
namespace Go.Proofs.YtnnoaolceeendaaGreatDoor

/-- Does a window lie that begins 'back' ahead of the time? -/
def okB (t size back : Int) : Bool := decide (back < size) && (decide (-9223372036854775808 + back ≤ t) && decide (t - back ≤ 9223372036854775807 - size))

/-- The begins with 'n - 1' slides back down to none, rising. -/
def sel (t size rest slide : Int) : Nat → List Int
  | 0 => []
  | n + 1 => (if okB t size (rest + n * slide) = true then [t - (rest + n * slide)] else []) ++ sel t size rest slide n

/-- The begins of all windows that have a time. -/
def wins (t size slide : Int) : List Int := sel t size (t % slide) slide 11

theorem sel_len (t size rest slide : Int) : ∀ n, (sel t size rest slide n).length ≤ n
  | 0 => by simp [sel]
  | n + 1 => by
    have := sel_len t size rest slide n
    simp only [sel, List.length_append]
    split <;> simp <;> omega

theorem okB_no1 {t size back : Int} (h : ¬ back < size) : okB t size back = false := by simp [okB, h]
theorem okB_no2 {t size back : Int} (h : ¬ -9223372036854775808 + back ≤ t) : okB t size back = false := by simp [okB, h]
theorem okB_no3 {t size back : Int} (h : ¬ t - back ≤ 9223372036854775807 - size) : okB t size back = false := by simp [okB, h]
theorem okB_yes {t size back : Int} (h1 : back < size) (h2 : -9223372036854775808 + back ≤ t) (h3 : t - back ≤ 9223372036854775807 - size) : okB t size back = true := by simp [okB, h1, h2, h3]

theorem sel_nil {t size rest slide : Int} (h0 : 0 ≤ slide) (h : t < -9223372036854775808 + rest) : ∀ n, sel t size rest slide n = []
  | 0 => rfl
  | n + 1 => by
    have h2 : 0 ≤ (n : Int) * slide := Int.mul_nonneg (by omega) h0
    rw [sel, sel_nil h0 h n, okB_no2 (by omega)]
    rfl

/-- More slides than fit bring nothing. -/
theorem sel_more {t size rest slide : Int} (h0 : 0 ≤ slide) (q : Nat) (h : size ≤ rest + q * slide) : ∀ k, sel t size rest slide (q + k) = sel t size rest slide q
  | 0 => rfl
  | k + 1 => by
    have h1 : ((q + k : Nat) : Int) * slide = q * slide + k * slide := by rw [Int.natCast_add, Int.add_mul]
    have h2 : 0 ≤ (k : Int) * slide := Int.mul_nonneg (by omega) h0
    show sel t size rest slide ((q + k) + 1) = _
    rw [sel, sel_more h0 q h k, okB_no1 (by omega)]
    rfl

/-- The steps of the loops: what is gathered and what is still to come are all. -/
theorem sel_yes {t size rest slide : Int} {n : Nat} {acc L : List Int} (h : acc ++ sel t size rest slide (n + 1) = L) (ho : okB t size (rest + n * slide) = true) :
    (acc ++ [t - (rest + n * slide)]) ++ sel t size rest slide n = L := by
  rw [← h, sel, if_pos ho]; simp
theorem sel_no {t size rest slide : Int} {n : Nat} {acc L : List Int} (h : acc ++ sel t size rest slide (n + 1) = L) (ho : okB t size (rest + n * slide) = false) :
    acc ++ sel t size rest slide n = L := by
  rw [← h, sel, if_neg (by simp [ho])]; simp

theorem tmod_emod (t s : Int) (hs : 1 ≤ s) : (t.tmod s < 0 → t % s = t.tmod s + s) ∧ (0 ≤ t.tmod s → t % s = t.tmod s) ∧ -s < t.tmod s ∧ t.tmod s < s := by
  have h1 := Int.tmod_add_mul_tdiv t s
  have h2 : (t.tmod s).natAbs < s.natAbs := by
    rw [Int.natAbs_tmod]; exact Nat.mod_lt _ (by omega)
  have e0 := Int.emod_nonneg t (show s ≠ 0 by omega)
  have e1 := Int.emod_lt_of_pos t (show 0 < s by omega)
  have e2 : t % s = t.tmod s % s := by
    conv => lhs; rw [← h1]
    rw [Int.add_mul_emod_self_left]
  refine ⟨fun h => ?_, fun h => ?_, by omega, by omega⟩
  · rw [e2, ← Int.add_emod_right]
    exact Int.emod_eq_of_lt (by omega) (by omega)
  · rw [e2]
    exact Int.emod_eq_of_lt h (by omega)

/-- The farthest begin: so many slides back. -/
theorem far (t size slide : Int) (h1 : 1 ≤ slide) (h2 : slide ≤ size) (h3 : size ≤ 10 * slide) :
    ∃ q : Nat, q ≤ 9 ∧ t.tmod slide + (size - 1 - t.tmod slide) / slide * slide = t % slide + q * slide ∧ t % slide + q * slide < size ∧ size ≤ t % slide + (q + 1 : Nat) * slide := by
  obtain ⟨m1, m2, m3, m4⟩ := tmod_emod t slide h1
  have e0 := Int.emod_nonneg t (show slide ≠ 0 by omega)
  have e1 := Int.emod_lt_of_pos t (show 0 < slide by omega)
  have d1 := Int.emod_add_mul_ediv (size - 1 - t % slide) slide
  have d2 := Int.emod_nonneg (size - 1 - t % slide) (show slide ≠ 0 by omega)
  have d3 := Int.emod_lt_of_pos (size - 1 - t % slide) (show 0 < slide by omega)
  have q0 : 0 ≤ (size - 1 - t % slide) / slide := Int.ediv_nonneg (by omega) (by omega)
  have q9 : (size - 1 - t % slide) / slide < 10 := Int.ediv_lt_of_lt_mul (by omega) (by omega)
  obtain ⟨q, hq⟩ := Int.eq_ofNat_of_zero_le q0
  rw [hq] at d1 q9
  have c : slide * (q : Int) = q * slide := Int.mul_comm _ _
  have c' : ((q + 1 : Nat) : Int) * slide = q * slide + slide := by rw [Int.natCast_add, Int.add_mul]; simp
  refine ⟨q, by omega, ?_, by omega, by omega⟩
  rcases Int.lt_or_le (t.tmod slide) 0 with h | h
  · have e := m1 h
    have : size - 1 - t.tmod slide = (size - 1 - t % slide) + slide := by omega
    rw [this, Int.add_ediv_of_dvd_right (Int.dvd_refl _), Int.ediv_self (by omega), hq, Int.add_mul]
    omega
  · have e := m2 h
    rw [← e, hq]

theorem sel_far (t size slide : Int) (h1 : 1 ≤ slide) {q : Nat} (hq : q ≤ 9) (h : size ≤ t % slide + (q + 1 : Nat) * slide) : sel t size (t % slide) slide (q + 1) = wins t size slide := by
  unfold wins
  have := sel_more (t := t) (size := size) (rest := t % slide) (slide := slide) (by omega) (q + 1) h (10 - q)
  rw [show q + 1 + (10 - q) = 11 by omega] at this
  exact this.symm

theorem sel_mem {t size rest slide b : Int} : ∀ {n : Nat}, b ∈ sel t size rest slide n → ∃ k : Nat, k < n ∧ b = t - (rest + k * slide) ∧ okB t size (rest + k * slide) = true
  | 0, h => by simp [sel] at h
  | n + 1, h => by
    rw [sel, List.mem_append] at h
    rcases h with h | h
    · split at h
      · rename_i ho
        simp at h
        exact ⟨n, by omega, h, ho⟩
      · simp at h
    · obtain ⟨k, hk, e⟩ := sel_mem h
      exact ⟨k, by omega, e⟩

theorem wins_ok {t size slide b : Int} (hs : 1 ≤ slide) (h : b ∈ wins t size slide) : b ≤ t ∧ t < b + size ∧ b + size ≤ 9223372036854775807 ∧ -9223372036854775808 ≤ b := by
  obtain ⟨k, _, e, ho⟩ := sel_mem h
  simp only [okB, Bool.and_eq_true, decide_eq_true_eq] at ho
  have r0 := Int.emod_nonneg t (show slide ≠ 0 by omega)
  have p0 : 0 ≤ (k : Int) * slide := Int.mul_nonneg (by omega) (by omega)
  omega

theorem wins_len (t size slide : Int) : (wins t size slide).length ≤ 11 := sel_len _ _ _ _ 11
end Go.Proofs.YtnnoaolceeendaaGreatDoor
