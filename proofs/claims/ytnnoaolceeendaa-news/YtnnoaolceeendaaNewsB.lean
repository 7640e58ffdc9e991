import Derived.Test.YtnnoaolceeendaaNewsA
namespace Go.Proofs.Ytnnoaolceeendaa
open Go.ChangeShapes Go.WideShapes Go.ChangeAt Go.RowKit

theorem Good_any (a b c d e f : Int) (w : World) :
    Calls Try.prog 19 #[.agg #[.int .i64 a, .int .i64 b, .int .i64 c, .int .i64 d, .int .i64 e, .int .i64 f]] w fun r w' => r = .returned (.bool (goodB a b c d e f)) ∧ Below w.heap.size w w' := by
  by_cases h1 : gwB a b = true
  · by_cases c1 : 0 ≤ c
    · by_cases c2 : c ≤ 1000
      · by_cases d1 : 0 ≤ d
        · by_cases d2 : d ≤ 100
          · by_cases e1 : 1 ≤ e
            · by_cases e2 : e ≤ 8
              · by_cases f1 : 0 ≤ f
                · have E : Hid (goodB a b c d e f = decide (f ≤ 3)) := by simp [Hid, goodB, winB, *]
                  rw [E.out]; clear E
                  go_enter Try.func19, Try.ntmps19
                  go_wp2_with (go_at_call 14; refine (sized_any _ _ _).mono ?_; rintro e w' ⟨rfl, rfl⟩)
                  go_ret
                  exact ⟨rfl, (Below.refl _ _).alloc (Nat.le_refl _) _⟩
                · have E : Hid (goodB a b c d e f = false) := by simp [Hid, goodB, winB, *]
                  rw [E.out]; clear E
                  go_enter Try.func19, Try.ntmps19
                  go_wp2_with (go_at_call 14; refine (sized_any _ _ _).mono ?_; rintro e w' ⟨rfl, rfl⟩)
                  go_ret
                  exact ⟨rfl, (Below.refl _ _).alloc (Nat.le_refl _) _⟩
              · have E : Hid (goodB a b c d e f = false) := by simp [Hid, goodB, winB, *]
                rw [E.out]; clear E
                go_enter Try.func19, Try.ntmps19
                go_wp2_with (go_at_call 14; refine (sized_any _ _ _).mono ?_; rintro e w' ⟨rfl, rfl⟩)
                go_ret
                exact ⟨rfl, (Below.refl _ _).alloc (Nat.le_refl _) _⟩
            · have E : Hid (goodB a b c d e f = false) := by simp [Hid, goodB, winB, *]
              rw [E.out]; clear E
              go_enter Try.func19, Try.ntmps19
              go_wp2_with (go_at_call 14; refine (sized_any _ _ _).mono ?_; rintro e w' ⟨rfl, rfl⟩)
              go_ret
              exact ⟨rfl, (Below.refl _ _).alloc (Nat.le_refl _) _⟩
          · have E : Hid (goodB a b c d e f = false) := by simp [Hid, goodB, winB, *]
            rw [E.out]; clear E
            go_enter Try.func19, Try.ntmps19
            go_wp2_with (go_at_call 14; refine (sized_any _ _ _).mono ?_; rintro e w' ⟨rfl, rfl⟩)
            go_ret
            exact ⟨rfl, (Below.refl _ _).alloc (Nat.le_refl _) _⟩
        · have E : Hid (goodB a b c d e f = false) := by simp [Hid, goodB, winB, *]
          rw [E.out]; clear E
          go_enter Try.func19, Try.ntmps19
          go_wp2_with (go_at_call 14; refine (sized_any _ _ _).mono ?_; rintro e w' ⟨rfl, rfl⟩)
          go_ret
          exact ⟨rfl, (Below.refl _ _).alloc (Nat.le_refl _) _⟩
      · have E : Hid (goodB a b c d e f = false) := by simp [Hid, goodB, winB, *]
        rw [E.out]; clear E
        go_enter Try.func19, Try.ntmps19
        go_wp2_with (go_at_call 14; refine (sized_any _ _ _).mono ?_; rintro e w' ⟨rfl, rfl⟩)
        go_ret
        exact ⟨rfl, (Below.refl _ _).alloc (Nat.le_refl _) _⟩
    · have E : Hid (goodB a b c d e f = false) := by simp [Hid, goodB, winB, *]
      rw [E.out]; clear E
      go_enter Try.func19, Try.ntmps19
      go_wp2_with (go_at_call 14; refine (sized_any _ _ _).mono ?_; rintro e w' ⟨rfl, rfl⟩)
      go_ret
      exact ⟨rfl, (Below.refl _ _).alloc (Nat.le_refl _) _⟩
  · have h1' : gwB a b = false := by simpa using h1
    have E : Hid (goodB a b c d e f = false) := by simp [Hid, goodB, h1']
    rw [E.out]; clear E h1
    go_enter Try.func19, Try.ntmps19
    go_wp2_with (go_at_call 14; refine (sized_any _ _ _).mono ?_; rintro e w' ⟨rfl, rfl⟩)
    go_ret
    exact ⟨rfl, (Below.refl _ _).alloc (Nat.le_refl _) _⟩

theorem config_any (a b c d e f : Int) (w : World) :
    Calls Try.prog 10 #[.agg #[.int .i64 a, .int .i64 b, .int .i64 c, .int .i64 d, .int .i64 e, .int .i64 f]] w fun r w' => r = .returned (.agg #[.int .i64 a, .int .i64 b, .int .i64 c, .int .i64 d, .int .i64 e, .int .i64 f]) ∧ Below w.heap.size w w' := by
  go_enter Try.func10, Try.ntmps10
  go_wp2
  exact bodyPost_ret (v := .agg #[.int .i64 a, .int .i64 b, .int .i64 c, .int .i64 d, .int .i64 e, .int .i64 f]) (by simp [results, Try.results10, go_sem]) rfl ⟨rfl, ((Below.refl _ _).alloc (Nat.le_refl _) _).alloc (by simp) _⟩
end Go.Proofs.Ytnnoaolceeendaa
