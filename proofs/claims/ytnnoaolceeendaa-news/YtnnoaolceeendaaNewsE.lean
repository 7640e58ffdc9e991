import Derived.Test.YtnnoaolceeendaaNewsD
namespace Go.Proofs.Ytnnoaolceeendaa
open Go.ChangeShapes Go.WideShapes Go.ChangeAt Go.RowKit

theorem keep6 {W w1 : World} (hb : Below W.heap.size W w1) {b : Nat} (hlt : b < W.heap.size) {v0 v1 v2 v3 v4 v5 : Value}
    (k0 : W.cell? ⟨b, 0, none⟩ = some v0) (k1 : W.cell? ⟨b, 1, none⟩ = some v1) (k2 : W.cell? ⟨b, 2, none⟩ = some v2) (k3 : W.cell? ⟨b, 3, none⟩ = some v3) (k4 : W.cell? ⟨b, 4, none⟩ = some v4) (k5 : W.cell? ⟨b, 5, none⟩ = some v5) :
    w1.cell? ⟨b, 0, none⟩ = some v0 ∧ w1.cell? ⟨b, 1, none⟩ = some v1 ∧ w1.cell? ⟨b, 2, none⟩ = some v2 ∧ w1.cell? ⟨b, 3, none⟩ = some v3 ∧ w1.cell? ⟨b, 4, none⟩ = some v4 ∧ w1.cell? ⟨b, 5, none⟩ = some v5 ∧ b < w1.heap.size :=
  ⟨(hb.cell (p := ⟨b, 0, none⟩) hlt).trans k0, (hb.cell (p := ⟨b, 1, none⟩) hlt).trans k1, (hb.cell (p := ⟨b, 2, none⟩) hlt).trans k2, (hb.cell (p := ⟨b, 3, none⟩) hlt).trans k3, (hb.cell (p := ⟨b, 4, none⟩) hlt).trans k4, (hb.cell (p := ⟨b, 5, none⟩) hlt).trans k5, Nat.lt_of_lt_of_le hlt hb.size⟩

set_option maxRecDepth 100000 in
set_option maxHeartbeats 2000000 in
theorem New_yes (a b c d e f : Int) (w : World) (h : goodB a b c d e f = true) :
    Calls Try.prog 9 #[.agg #[.int .i64 a, .int .i64 b, .int .i64 c, .int .i64 d, .int .i64 e, .int .i64 f]] w fun r w' => ∃ g, r = .returned (.tuple #[.pointer (some ⟨g, 0, none⟩), .int .i64 0]) ∧ Below w.heap.size w w' := by
  obtain ⟨z, hz, hzs, hne⟩ := flow_parts
  obtain ⟨he1, he8⟩ := good_bd h
  go_enter Try.func9, Try.ntmps9
  go_wp2_with (go_at_call 16; refine (good_any _ _ _ _ _ _ _).mono ?_; rintro r w1 ⟨rfl, hb1⟩)
  obtain ⟨k0, k1, k2, k3, k4, k5, hlt⟩ := keep6 hb1 (b := w.heap.size) (by simp) (World.cell?_alloc_new ..) (World.cell?_alloc_new ..) (World.cell?_alloc_new ..) (World.cell?_alloc_new ..) (World.cell?_alloc_new ..) (World.cell?_alloc_new ..)
  have hB1 : Below w.heap.size w w1 := ((Below.refl _ _).alloc (Nat.le_refl _) _).trans (hb1.mono (by simp))
  clear hb1
  go_region_with (first
    | (go_at_call 17; refine (newParts_any _ he1 he8 _).mono ?_; rintro r w2 ⟨g2, rfl, hb2⟩; obtain ⟨k0', k1', k2', k3', k4', k5', hlt'⟩ := keep6 hb2 hlt k0 k1 k2 k3 k4 k5)
    | (go_at_call 18; refine (newWheel_any _).mono ?_; rintro r w3 ⟨cs, rfl, hcs, hb3⟩; obtain ⟨k0'', k1'', k2'', k3'', k4'', k5'', hlt''⟩ := keep6 hb3 hlt' k0' k1' k2' k3' k4' k5'))
  all_goals
    go_wp2
    go_ret2
    exact ⟨_, rfl, ((hB1.drew.trans (hb2.mono (by have := hB1.size; simpa using this))).trans (hb3.mono (by have := hB1.size; have := hb2.size; simp at *; omega))).alloc (by have := hB1.size; have := hb2.size; have := hb3.size; simp at *; omega) _⟩
end Go.Proofs.Ytnnoaolceeendaa
