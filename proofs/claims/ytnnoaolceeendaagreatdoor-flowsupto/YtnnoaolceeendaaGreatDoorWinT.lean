import Derived.Test.YtnnoaolceeendaaGreatDoorWinR
namespace Go.Proofs.YtnnoaolceeendaaGreatDoor
open Go.ChangeShapes Go.WideShapes Go.ChangeAt Go.RowKit

set_option maxRecDepth 100000 in
set_option maxHeartbeats 1000000 in
theorem begins_any (t size slide : Int) (w : World) (ht1 : -9223372036854775808 ≤ t) (ht2 : t ≤ 9223372036854775807) (h0 : 1 ≤ slide) (h1 : slide ≤ size) (h2 : size ≤ 10 * slide) (h3 : size ≤ 1000) :
    Calls Tryz.prog 69 #[.int .i64 t, .int .i64 size, .int .i64 slide] w fun e w' => ∃ v, e = .returned v ∧ w'.ownsRow w.heap.size 3 1 v (wins t size slide).length ((wins t size slide).map (Value.int .i64)) ∧ Below w.heap.size w w' := by
  obtain ⟨i0, hi, hz0, hz1, hz2⟩ := info_parts Tryz.infoInt
  obtain ⟨q, hq, e1, e2, e3⟩ := far t size slide h0 h1 h2
  obtain ⟨m1, m2, m3, m4⟩ := tmod_emod t slide h0
  have r0 := Int.emod_nonneg t (show slide ≠ 0 by omega)
  have r1 := Int.emod_lt_of_pos t (show 0 < slide by omega)
  have HL : Hid (sel t size (t % slide) slide (q + 1) = wins t size slide) := sel_far t size slide h0 hq e3
  have E1 : Hid _ := e1
  have E2 : Hid _ := e2
  have b0 : 0 ≤ (size - 1 - t.tmod slide) / slide * slide := Int.mul_nonneg (Int.ediv_nonneg (by omega) (by omega)) (by omega)
  have b1 : (size - 1 - t.tmod slide) / slide * slide ≤ 2000 := by have := Int.ediv_mul_le (size - 1 - t.tmod slide) (show slide ≠ 0 by omega); omega
  clear e1 e2 e3 m1 m2
  go_enter Tryz.func69, Tryz.ntmps69
  go_wp2
  go_loopw [9, 10] (fun v b wr => ∃ (n : Nat) (x : Int) (acc : List Int), b = .int .i64 x ∧ Hid (x = t % slide + n * slide - slide) ∧ -1000 ≤ x ∧ x < size ∧ Hid (Gath t size (t % slide) slide (wins t size slide) w.heap.size w wr v n acc))
    (fun _ b _ => (intOf b + 1001).toNat)
  case atStart =>
    have c1 : ((q + 1 : Nat) : Int) * slide = q * slide + slide := by rw [Int.natCast_add, Int.add_mul]; simp
    have a1 := E1.out
    have a2 := E2.out
    exact ⟨q + 1, _, [], rfl, by show _ = _; omega, by omega, by omega, ⟨by simpa using HL.out, by simp; omega, World.ownsRow_nil _ _ _ _, Below.refl _ _⟩⟩
  case round =>
    obtain ⟨n, x, acc, rfl, HX, hx1, hx2, HG⟩ := hrel
    by_cases hx : 0 ≤ x
    · obtain ⟨n', rfl⟩ : ∃ n', n = n' + 1 := by
        cases n with
        | zero => exfalso; have := HX.out; simp at this; omega
        | succ k => exact ⟨k, rfl⟩
      have HX' : Hid (x = t % slide + n' * slide) := by
        have := HX.out
        have c1 : ((n' + 1 : Nat) : Int) * slide = n' * slide + slide := by rw [Int.natCast_add, Int.add_mul]; simp
        show _ = _
        omega
      clear HX
      by_cases k1 : -9223372036854775808 + x ≤ t
      · by_cases k2 : t ≤ 9223372036854775807 - (size - x)
        · have hown := HG.out.own
          have hsh := HG.out.short
          have hbz := HG.out.below.size
          go_wp2_with (at_builtin; refine wpList_append_own _ rfl _ _ 40 rfl w.heap.size 3 i0 (.int .i64 0) 1 8 Tryz.underlying40 hi hz0 hz1 hz2 rfl (by decide) _ _ _ rfl (hown.alloc _) ⟨wr.heap.size, 0, none⟩ 1 1 [.int .i64 (t - x)] rfl rfl ?c1 ?c2 ?c3 ?c4 ?c5 ?_)
          case c1 =>
            intro j u hj
            match j, hj with
            | 0, hj => simp at hj; subst hj; simp [Addr.add]
          case c2 => intro u hu; simp at hu; subst hu; rfl
          case c3 => unfold maxLen; omega
          case c4 => omega
          case c5 => simp; omega
          intro v' w1 hown' hgrow _
          have R : Hid (Gath t size (t % slide) slide (wins t size slide) w.heap.size w w1 v' n' (acc ++ [t - x])) := by
            have a := HX'.out
            rw [a] at hown' ⊢
            exact HG.out.take (Nat.le_refl _) (okB_yes (by omega) (by omega) (by omega)) hown' hgrow
          clear hown' hgrow hown HG
          go_wp2
          go_roundw
          case rel => exact ⟨n', _, _, rfl, by have := HX'.out; show _ = _; omega, by omega, by omega, R⟩
          case measure => simp [intOf]; omega
        · go_wp2
          go_roundw
          case rel => exact ⟨n', _, acc, rfl, by have := HX'.out; show _ = _; omega, by omega, by omega, HG.out.skip (by have := HX'.out; exact okB_no3 (by omega))⟩
          case measure => simp [intOf]; omega
      · go_wp2
        all_goals
          go_roundw
          case rel => exact ⟨n', _, acc, rfl, by have := HX'.out; show _ = _; omega, by omega, by omega, HG.out.skip (by have := HX'.out; exact okB_no2 (by omega))⟩
          case measure => simp [intOf]; omega
    · have hn : n = 0 := by
        cases n with
        | zero => rfl
        | succ k =>
          exfalso
          have := HX.out
          have c1 : ((k + 1 : Nat) : Int) * slide = k * slide + slide := by rw [Int.natCast_add, Int.add_mul]; simp
          have : 0 ≤ (k : Int) * slide := Int.mul_nonneg (by omega) (by omega)
          omega
      subst hn
      have hall : acc = wins t size slide := by simpa [sel] using HG.out.all
      have H2 : Hid _ := hall
      clear hall
      go_wp2
      go_ret
      refine ⟨_, rfl, ?_, HG.out.below⟩
      rw [← H2.out]
      exact HG.out.own
end Go.Proofs.YtnnoaolceeendaaGreatDoor
