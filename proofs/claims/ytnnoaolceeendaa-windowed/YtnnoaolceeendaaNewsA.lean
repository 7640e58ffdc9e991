import Derived.Test.YtnnoaolceeendaaRows
import Derived.WalkKit
import Derived.ProofKit
import Derived.OpenShut
namespace Go.Proofs.Ytnnoaolceeendaa
open Go.ChangeShapes Go.WideShapes Go.ChangeAt Go.RowKit

def winB (n lo hi : Int) : Bool := decide (lo ≤ n) && decide (n ≤ hi)
def gwB (a b : Int) : Bool := winB a 1 1000 && (winB b 1 a && decide (a ≤ 10 * b))

theorem win_yes {n lo hi : Int} (h1 : lo ≤ n) (h2 : n ≤ hi) : winB n lo hi = true := by simp [winB, h1, h2]
theorem win_no1 {n lo hi : Int} (h1 : ¬ lo ≤ n) : winB n lo hi = false := by simp [winB, h1]
theorem win_no2 {n lo hi : Int} (h1 : ¬ n ≤ hi) : winB n lo hi = false := by simp [winB, h1]

theorem within_any (n lo hi : Int) (w : World) :
    Calls Try.prog 20 #[.int .i64 n, .int .i64 lo, .int .i64 hi] w fun e w' => e = .returned (.bool (winB n lo hi)) ∧ w' = w := by
  by_cases h1 : lo ≤ n
  · by_cases h2 : n ≤ hi
    · rw [win_yes h1 h2]
      go_enter Try.func20, Try.ntmps20
      go_wp2
      go_ret
      exact ⟨rfl, rfl⟩
    · rw [win_no2 h2]
      go_enter Try.func20, Try.ntmps20
      go_wp2
      go_ret
      exact ⟨rfl, rfl⟩
  · rw [win_no1 h1]
    go_enter Try.func20, Try.ntmps20
    go_wp2
    go_ret
    exact ⟨rfl, rfl⟩

theorem gw_of1 {a b : Int} (h : winB a 1 1000 = false) : gwB a b = false := by simp [gwB, h]
theorem gw_of2 {a b : Int} (h : winB a 1 1000 = true) (h2 : winB b 1 a = false) : gwB a b = false := by simp [gwB, h, h2]
theorem gw_of3 {a b : Int} (h : winB a 1 1000 = true) (h2 : winB b 1 a = true) : gwB a b = decide (a ≤ 10 * b) := by simp [gwB, h, h2]
theorem win_bd {n lo hi : Int} (h : winB n lo hi = true) : lo ≤ n ∧ n ≤ hi := by simpa [winB] using h

theorem goodWidths_any (a b : Int) (w : World) :
    Calls Try.prog 12 #[.int .i64 a, .int .i64 b] w fun e w' => e = .returned (.bool (gwB a b)) ∧ w' = w := by
  cases h1 : winB a 1 1000
  · rw [gw_of1 h1]
    go_enter Try.func12, Try.ntmps12
    go_wp2_with (go_at_call 20; refine (within_any _ _ _ _).mono ?_; rintro e w' ⟨rfl, rfl⟩)
    go_ret
    exact ⟨rfl, rfl⟩
  · cases h2 : winB b 1 a
    · rw [gw_of2 h1 h2]
      go_enter Try.func12, Try.ntmps12
      go_wp2_with (go_at_call 20; refine (within_any _ _ _ _).mono ?_; rintro e w' ⟨rfl, rfl⟩)
      go_ret
      exact ⟨rfl, rfl⟩
    · rw [gw_of3 h1 h2]
      have b1 := win_bd h1
      have b2 := win_bd h2
      obtain ⟨l1, l2⟩ := b1
      obtain ⟨l3, l4⟩ := b2
      go_enter Try.func12, Try.ntmps12
      go_wp2_with (go_at_call 20; refine (within_any _ _ _ _).mono ?_; rintro e w' ⟨rfl, rfl⟩)
      go_ret
      exact ⟨rfl, rfl⟩

theorem sized_any (a b : Int) (w : World) :
    Calls Try.prog 14 #[.int .i64 a, .int .i64 b] w fun e w' => e = .returned (.bool (gwB a b)) ∧ w' = w := by
  by_cases h1 : 1 ≤ a
  · by_cases h2 : a ≤ 1000
    · have e1 := win_yes h1 h2
      by_cases h3 : 1 ≤ b
      · by_cases h4 : b ≤ a
        · rw [gw_of3 e1 (win_yes h3 h4)]
          clear e1
          go_enter Try.func14, Try.ntmps14
          go_wp2
          go_ret
          exact ⟨rfl, rfl⟩
        · rw [gw_of2 e1 (win_no2 h4)]
          clear e1
          go_enter Try.func14, Try.ntmps14
          go_wp2
          go_ret
          exact ⟨rfl, rfl⟩
      · rw [gw_of2 e1 (win_no1 h3)]
        clear e1
        go_enter Try.func14, Try.ntmps14
        go_wp2
        go_ret
        exact ⟨rfl, rfl⟩
    · rw [gw_of1 (win_no2 h2)]
      go_enter Try.func14, Try.ntmps14
      go_wp2
      go_ret
      exact ⟨rfl, rfl⟩
  · rw [gw_of1 (win_no1 h1)]
    go_enter Try.func14, Try.ntmps14
    go_wp2
    go_ret
    exact ⟨rfl, rfl⟩

def goodB (a b c d e f : Int) : Bool := gwB a b && (winB c 0 1000 && (winB d 0 100 && (winB e 1 8 && winB f 0 3)))
def cfg (a b c d e f : Int) : Value := .agg #[.int .i64 a, .int .i64 b, .int .i64 c, .int .i64 d, .int .i64 e, .int .i64 f]

theorem good_any (a b c d e f : Int) (w : World) :
    Calls Try.prog 16 #[.agg #[.int .i64 a, .int .i64 b, .int .i64 c, .int .i64 d, .int .i64 e, .int .i64 f]] w fun r w' => r = .returned (.bool (goodB a b c d e f)) ∧ Below w.heap.size w w' := by
  have key : ∀ x1 x2 x3 x4 x5 : Bool, gwB a b = x1 → winB c 0 1000 = x2 → winB d 0 100 = x3 → winB e 1 8 = x4 → winB f 0 3 = x5 → 
      Calls Try.prog 16 #[.agg #[.int .i64 a, .int .i64 b, .int .i64 c, .int .i64 d, .int .i64 e, .int .i64 f]] w fun r w' => r = .returned (.bool (x1 && (x2 && (x3 && (x4 && x5))))) ∧ Below w.heap.size w w' := by
    intro x1 x2 x3 x4 x5 h1 h2 h3 h4 h5
    cases x1
    · go_enter Try.func16, Try.ntmps16
      go_wp2_with (first
        | (go_at_call 12; refine (goodWidths_any _ _ _).mono ?_; rintro e w' ⟨rfl, rfl⟩)
        | (go_at_call 20; refine (within_any _ _ _ _).mono ?_; rintro e w' ⟨rfl, rfl⟩))
      go_ret
      exact ⟨rfl, (Below.refl _ _).alloc (Nat.le_refl _) _⟩
    · cases x2
      · go_enter Try.func16, Try.ntmps16
        go_wp2_with (first
          | (go_at_call 12; refine (goodWidths_any _ _ _).mono ?_; rintro e w' ⟨rfl, rfl⟩)
          | (go_at_call 20; refine (within_any _ _ _ _).mono ?_; rintro e w' ⟨rfl, rfl⟩))
        go_ret
        exact ⟨rfl, (Below.refl _ _).alloc (Nat.le_refl _) _⟩
      · cases x3
        · go_enter Try.func16, Try.ntmps16
          go_wp2_with (first
            | (go_at_call 12; refine (goodWidths_any _ _ _).mono ?_; rintro e w' ⟨rfl, rfl⟩)
            | (go_at_call 20; refine (within_any _ _ _ _).mono ?_; rintro e w' ⟨rfl, rfl⟩))
          go_ret
          exact ⟨rfl, (Below.refl _ _).alloc (Nat.le_refl _) _⟩
        · cases x4
          all_goals
            go_enter Try.func16, Try.ntmps16
            go_wp2_with (first
              | (go_at_call 12; refine (goodWidths_any _ _ _).mono ?_; rintro e w' ⟨rfl, rfl⟩)
              | (go_at_call 20; refine (within_any _ _ _ _).mono ?_; rintro e w' ⟨rfl, rfl⟩))
            go_ret
            exact ⟨by simp, (Below.refl _ _).alloc (Nat.le_refl _) _⟩
  exact key _ _ _ _ _ rfl rfl rfl rfl rfl
end Go.Proofs.Ytnnoaolceeendaa
