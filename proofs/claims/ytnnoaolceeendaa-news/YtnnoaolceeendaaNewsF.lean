import Derived.Test.YtnnoaolceeendaaNewsE
import Derived.RegionTactic
namespace Go.Proofs.Ytnnoaolceeendaa
open Go.ChangeShapes Go.WideShapes Go.ChangeAt Go.RowKit

theorem RNew_no (a b c d e f : Int) (w : World) (h : goodB a b c d e f = false) :
    Calls Try.prog 11 #[.agg #[.int .i64 a, .int .i64 b, .int .i64 c, .int .i64 d, .int .i64 e, .int .i64 f]] w fun r w' => r = .returned (.tuple #[.pointer none, .int .i64 1]) ∧ Below w.heap.size w w' := by
  go_enter Try.func11, Try.ntmps11
  go_wp2_with (go_at_call 19; refine (Good_any _ _ _ _ _ _ _).mono ?_; rintro r w1 ⟨rfl, hb1⟩)
  go_ret2
  exact ⟨rfl, ((Below.refl _ _).alloc (Nat.le_refl _) _).trans (hb1.mono (by simp))⟩

theorem Try.info89 : (Try.prog.info? 89).map (fun i => (i.zero, i.size, i.bytes)) = some (some (.agg #[.bool false, .int .i64 0, .bool false, .bool false, .int .i64 0]), 5, 32) := by kernel_rfl
theorem make57 (e : Int) (h1 : 1 ≤ e) (h8 : e ≤ 8) : ∀ w : World, (Instr.makeSlice 57 (.int .i64 e) (.int .i64 e)).run Try.prog w = .ok (.slice (some ⟨w.heap.size, 0, none⟩) e.toNat e.toNat) (w.alloc (.cells (madeCells (Value.cells (.agg #[.bool false, .int .i64 0, .bool false, .bool false, .int .i64 0])) (e.toNat * 5)) 89)) := by
  intro w
  obtain ⟨i0, hi, hz0, hz1, hz2⟩ := info_parts Try.info89
  have := run_make (P := Try.prog) w 57 89 i0 _ Try.underlying57 hi hz0 .i64 .i64 e e (by omega) (by omega) (by rw [hz2]; omega) (by omega)
  rw [hz1] at this
  exact this

set_option maxRecDepth 100000 in
set_option maxHeartbeats 1000000 in
theorem RNew_yes (a b c d e f : Int) (w : World) (h : goodB a b c d e f = true) :
    Calls Try.prog 11 #[.agg #[.int .i64 a, .int .i64 b, .int .i64 c, .int .i64 d, .int .i64 e, .int .i64 f]] w fun r w' => ∃ g, r = .returned (.tuple #[.pointer (some ⟨g, 0, none⟩), .int .i64 0]) ∧ Below w.heap.size w w' := by
  obtain ⟨he1, he8⟩ := good_bd h
  go_enter Try.func11, Try.ntmps11
  go_wp2_with (go_at_call 19; refine (Good_any _ _ _ _ _ _ _).mono ?_; rintro r w1 ⟨rfl, hb1⟩)
  obtain ⟨k0, k1, k2, k3, k4, k5, hlt⟩ := keep6 hb1 (b := w.heap.size) (by simp) (World.cell?_alloc_new ..) (World.cell?_alloc_new ..) (World.cell?_alloc_new ..) (World.cell?_alloc_new ..) (World.cell?_alloc_new ..) (World.cell?_alloc_new ..)
  have hB1 : Below w.heap.size w w1 := ((Below.refl _ _).alloc (Nat.le_refl _) _).trans (hb1.mono (by simp))
  clear hb1
  have hmk := make57 e he1 he8
  go_region
  all_goals
    go_wp2
    go_ret2
    exact ⟨_, rfl, (hB1.drew.alloc (by have := hB1.size; simpa using this) _).alloc (by have := hB1.size; simp; omega) _⟩


theorem num_any (n : Int) (w : World) : Calls Try.prog 8 #[.int .i64 n] w fun r w' => r = .returned (.int .i64 n) ∧ w' = w := by
  go_enter Try.func8, Try.ntmps8
  go_wp2
  go_ret
  exact ⟨rfl, rfl⟩

set_option maxHeartbeats 1000000 in
theorem news_walk (a b c d e f : Int) (w : World) :
    Calls Try.prog 4 #[.agg #[.int .i64 a, .int .i64 b, .int .i64 c, .int .i64 d, .int .i64 e, .int .i64 f]] w fun r w' => r = .returned (.bool true) ∧ Below w.heap.size w w' := by
  cases h : goodB a b c d e f
  · go_enter Try.func4, Try.ntmps4
    go_wp2_with fail
    refine (config_any _ _ _ _ _ _ _).mono ?_
    rintro r w1 ⟨rfl, hb1⟩
    obtain ⟨k0, k1, k2, k3, k4, k5, hlt⟩ := keep6 hb1 (b := w.heap.size) (by simp) (World.cell?_alloc_new ..) (World.cell?_alloc_new ..) (World.cell?_alloc_new ..) (World.cell?_alloc_new ..) (World.cell?_alloc_new ..) (World.cell?_alloc_new ..)
    have hB1 : Below w.heap.size w w1 := ((Below.refl _ _).alloc (Nat.le_refl _) _).trans (hb1.mono (by simp))
    clear hb1
    go_wp2_with fail
    refine (New_no _ _ _ _ _ _ _ h).mono ?_
    rintro r w2 ⟨rfl, hb2⟩
    obtain ⟨k0', k1', k2', k3', k4', k5', hlt'⟩ := keep6 hb2 hlt k0 k1 k2 k3 k4 k5
    have hB2 : Below w.heap.size w w2 := hB1.trans (hb2.mono (by omega))
    clear hb2 k0 k1 k2 k3 k4 k5
    go_wp2_with fail
    refine (RNew_no _ _ _ _ _ _ _ h).mono ?_
    rintro r w3 ⟨rfl, hb3⟩
    have hB3 : Below w.heap.size w w3 := hB2.trans (hb3.mono (by omega))
    clear hb3 k0' k1' k2' k3' k4' k5'
    go_wp2_with (go_at_call 8; refine (num_any _ _).mono ?_; rintro r w4 ⟨rfl, rfl⟩)
    go_ret
    exact ⟨rfl, hB3⟩
  · go_enter Try.func4, Try.ntmps4
    go_wp2_with fail
    refine (config_any _ _ _ _ _ _ _).mono ?_
    rintro r w1 ⟨rfl, hb1⟩
    obtain ⟨k0, k1, k2, k3, k4, k5, hlt⟩ := keep6 hb1 (b := w.heap.size) (by simp) (World.cell?_alloc_new ..) (World.cell?_alloc_new ..) (World.cell?_alloc_new ..) (World.cell?_alloc_new ..) (World.cell?_alloc_new ..) (World.cell?_alloc_new ..)
    have hB1 : Below w.heap.size w w1 := ((Below.refl _ _).alloc (Nat.le_refl _) _).trans (hb1.mono (by simp))
    clear hb1
    go_wp2_with fail
    refine (New_yes _ _ _ _ _ _ _ h).mono ?_
    rintro r w2 ⟨g, rfl, hb2⟩
    obtain ⟨k0', k1', k2', k3', k4', k5', hlt'⟩ := keep6 hb2 hlt k0 k1 k2 k3 k4 k5
    have hB2 : Below w.heap.size w w2 := hB1.trans (hb2.mono (by omega))
    clear hb2 k0 k1 k2 k3 k4 k5
    go_wp2_with fail
    refine (RNew_yes _ _ _ _ _ _ _ h).mono ?_
    rintro r w3 ⟨g', rfl, hb3⟩
    have hB3 : Below w.heap.size w w3 := hB2.trans (hb3.mono (by omega))
    clear hb3 k0' k1' k2' k3' k4' k5'
    go_wp2_with (go_at_call 8; refine (num_any _ _).mono ?_; rintro r w4 ⟨rfl, rfl⟩)
    go_ret
    exact ⟨rfl, hB3⟩
end Go.Proofs.Ytnnoaolceeendaa
