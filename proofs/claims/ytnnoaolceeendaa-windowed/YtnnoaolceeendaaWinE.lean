import Derived.Test.YtnnoaolceeendaaWinD
namespace Go.Proofs.Ytnnoaolceeendaa
open Go.ChangeShapes Go.WideShapes Go.ChangeAt Go.RowKit

theorem num_any' (n : Int) (w : World) : Calls Try.prog 8 #[.int .i64 n] w fun r w' => r = .returned (.int .i64 n) ∧ w' = w := by
  go_enter Try.func8, Try.ntmps8
  go_wp2
  go_ret
  exact ⟨rfl, rfl⟩

set_option maxHeartbeats 1000000 in
theorem windowed_walk (t size slide : Int) (w : World) (ht1 : -9223372036854775808 ≤ t) (ht2 : t ≤ 9223372036854775807) :
    Calls Try.prog 3 #[.int .i64 t, .int .i64 size, .int .i64 slide] w fun r w' => r = .returned (.bool true) ∧ Below w.heap.size w w' := by
  obtain ⟨L, hL⟩ : ∃ L, L = winsOf t size slide := ⟨_, rfl⟩
  obtain ⟨N, hN⟩ : ∃ N, N = winsNo size slide := ⟨_, rfl⟩
  have hlen : L.length ≤ 11 := by rw [hL]; exact winsOf_len _ _ _
  have HL : Hid _ := hL
  have HN : Hid _ := hN
  have W1 : Hid _ := fun w => Windows_any t size slide w ht1 ht2
  have W2 : Hid _ := fun w => RWindows_any t size slide w ht1 ht2
  rw [← hL, ← hN] at W1 W2
  clear hL hN
  go_enter Try.func3, Try.ntmps3
  go_wp2_with fail
  refine (W1.out _).mono ?_
  rintro r w1 ⟨v1, rfl, o1, b1⟩
  go_wp2_with fail
  refine (W1.out _).mono ?_
  rintro r w2 ⟨v2, rfl, o2, b2⟩
  have S : Hid (Spoil w.heap.size w1.heap.size v1 v2 L L.length w w2) :=
    ⟨owns_below o1 b2, fun g hg => (o1.lt g hg).2, ⟨_, o2⟩, b1.trans (b2.mono b1.size), b1.size⟩
  obtain ⟨a2, cap2, rfl⟩ := owns_slice o2
  clear o1 o2 b1 b2
  go_wp2
  go_loopw [11] (fun i wr => ∃ k : Nat, k ≤ L.length ∧ i = .int .i64 k ∧ Hid (Spoil w.heap.size w1.heap.size v1 (.slice a2 L.length cap2) L L.length w wr)) (fun i _ => L.length - (intOf i).toNat)
  case atStart => exact ⟨0, Nat.zero_le _, rfl, S⟩
  case round =>
    obtain ⟨k, hk, rfl, hs⟩ := hrel
    by_cases hlt : k < L.length
    · obtain ⟨g, cap, u, ev, hc, hf⟩ := hs.out.cell hlt
      simp only [Value.slice.injEq] at ev
      obtain ⟨rfl, _, rfl⟩ := ev
      go_wp2
      go_roundw
      case rel => exact ⟨k + 1, by omega, by go_num, hs.out.step⟩
      case measure => simp [intOf]; omega
    · clear S
      go_wp2_with fail
      refine (W2.out _).mono ?_
      rintro r w3 ⟨v3, rfl, o3, b3⟩
      have o1 := owns_below hs.out.first b3
      go_wp2_with fail
      refine (ints_own L hlen _ _ _ _ _ o1 o3).mono ?_
      rintro r w4 ⟨rfl, b4⟩
      go_wp2_with (go_at_call 8; refine (num_any' _ _).mono ?_; rintro r w4 ⟨rfl, rfl⟩)
      go_ret
      exact ⟨rfl, (hs.out.below.trans (b3.mono hs.out.below.size)).trans (b4.mono (Nat.le_trans hs.out.below.size b3.size))⟩
end Go.Proofs.Ytnnoaolceeendaa
