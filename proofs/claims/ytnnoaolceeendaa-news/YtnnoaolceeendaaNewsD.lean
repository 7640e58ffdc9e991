import Derived.Test.YtnnoaolceeendaaNewsC
import Derived.Deep.RegionWith
namespace Go.Proofs.Ytnnoaolceeendaa
open Go.ChangeShapes Go.WideShapes Go.ChangeAt Go.RowKit

theorem wz_one : wz.all (·.oneCell') = true := by kernel_rfl
theorem wheel_parts : ∃ (z : Array Value), (∀ w, (zeroValue 51).run Try.prog w = .ok (.agg z) w) ∧ z.size = 258 ∧ z.all (·.oneCell') = true :=
  ⟨wz, zero51, wz_size, wz_one⟩
theorem Try.size51 : (Try.prog.info? 51).map (·.size) = some 258 := by kernel_rfl
theorem all_set {z : Array Value} (h : z.all (·.oneCell') = true) (i : Nat) (v : Value) (hv : v.oneCell' = true) : (z.setIfInBounds i v).all (·.oneCell') = true := by
  rw [Array.all_eq_true_iff_forall_mem] at h ⊢
  intro x hx
  rcases Array.mem_or_eq_of_mem_setIfInBounds hx with h' | h'
  · exact h x h'
  · subst h'; exact hv
theorem wheel_side {z : Array Value} (h : z.size = 258) (h1 : z.all (·.oneCell') = true) (v u : Value) (hv : v.oneCell' = true) (hu : u.oneCell' = true) :
    (Try.prog.info? 51).map (·.size) = some ((z.setIfInBounds 0 v).setIfInBounds 1 u).size ∧ z.size = ((z.setIfInBounds 0 v).setIfInBounds 1 u).size ∧ ((z.setIfInBounds 0 v).setIfInBounds 1 u).all (·.oneCell') = true :=
  ⟨by rw [Try.size51]; simp [h], by simp, all_set (all_set h1 0 v hv) 1 u hu⟩

theorem Below_setRow {B : Nat} {a w : World} (h : Below B a w) {g : Nat} (hp : B ≤ g) (cs : Array Value) : Below B a (w.setRow g cs) :=
  ⟨h.os, h.tape, h.output, by simpa using h.size, fun k hk => by rw [setRow_other w g k cs (by omega)]; exact h.block k hk⟩

set_option maxRecDepth 100000 in
theorem newWheel_any (w : World) :
    Calls Try.prog 18 #[] w fun r w' => ∃ cs : Array Value, r = .returned (.agg cs) ∧ cs.size = 258 ∧ Below w.heap.size w w' := by
  obtain ⟨z, hz, hzs, hz1⟩ := wheel_parts
  have hne : ¬ z = #[] := by intro h; rw [h] at hzs; simp at hzs
  have hmm := @run_makeMap Try.prog
  have hz1' : Hid _ := hz1
  clear hz1
  go_enter Try.func18, Try.ntmps18
  go_wp2_with (refine wpList_store_row rfl 51 _ _ rfl w.heap.size _ rfl rfl 51 z (by rw [heap_alloc2_old]) (wheel_side hzs hz1'.out _ _ rfl rfl).1 (wheel_side hzs hz1'.out _ _ rfl rfl).2.1 (wheel_side hzs hz1'.out _ _ rfl rfl).2.2 ?_)
  refine bodyPost_ret (results_cell_row Try.results18 _ _ w.heap.size 51 _ (0, 0) _ rfl (setRow_heap _ _ z _ 51 (0, 0) (by rw [heap_alloc2_old])) Try.underlying51 rfl (wheel_side hzs hz1'.out _ _ rfl rfl).1) rfl ⟨_, rfl, ?_, ?_⟩
  · simp [hzs]
  · exact Below_setRow (((Below.refl _ _).alloc (Nat.le_refl _) _).alloc (by simp) _) (Nat.le_refl _) _

def fz : Array Value := #[.int .i64 0, .int .i64 0, .int .i64 0, .int .i64 0, .int .i64 0, .int .i64 0, .slice none 0 0, .int .i64 0, .map none] ++ Array.replicate 256 (.slice none 0 0) ++ #[.slice none 0 0, .slice none 0 0]
theorem fz_size : fz.size = 267 := by simp [fz]
theorem Try.info56 : (Try.prog.info? 56).map (fun i => (i.zero, i.size)) = some (some (.agg fz), 267) := by kernel_rfl
theorem zero56 (w : World) : (zeroValue 56).run Try.prog w = .ok (.agg fz) w := by
  have h := Try.info56
  cases hq : Try.prog.info? 56 with
  | none => simp [hq] at h
  | some i =>
    simp only [hq, Option.map_some, Option.some.injEq, Prod.mk.injEq] at h
    simp [zeroValue, typeInfo, hq, h.1]
theorem flow_parts : ∃ (z : Array Value), (∀ w, (zeroValue 56).run Try.prog w = .ok (.agg z) w) ∧ z.size = 267 ∧ ¬ z = #[] :=
  ⟨fz, zero56, fz_size, by intro h; have := fz_size; rw [h] at this; simp at this⟩
theorem bcell {W w1 : World} (hb : Below W.heap.size W w1) : (∀ b o, b < W.heap.size → w1.cell? ⟨b, o, none⟩ = W.cell? ⟨b, o, none⟩) ∧ (∀ b o, b < W.heap.size → w1.frozen? ⟨b, o, none⟩ = W.frozen? ⟨b, o, none⟩) :=
  ⟨fun b o h => hb.cell (p := ⟨b, o, none⟩) h, fun b o h => hb.frozen (p := ⟨b, o, none⟩) h⟩
theorem good_bd {a b c d e f : Int} (h : goodB a b c d e f = true) : 1 ≤ e ∧ e ≤ 8 := by
  simp only [goodB, Bool.and_eq_true] at h
  exact win_bd h.2.2.2.1

set_option maxRecDepth 100000 in
theorem New_no (a b c d e f : Int) (w : World) (h : goodB a b c d e f = false) :
    Calls Try.prog 9 #[.agg #[.int .i64 a, .int .i64 b, .int .i64 c, .int .i64 d, .int .i64 e, .int .i64 f]] w fun r w' => r = .returned (.tuple #[.pointer none, .int .i64 1]) ∧ Below w.heap.size w w' := by
  go_enter Try.func9, Try.ntmps9
  go_wp2_with (go_at_call 16; refine (good_any _ _ _ _ _ _ _).mono ?_; rintro r w1 ⟨rfl, hb1⟩)
  go_ret2
  exact ⟨rfl, ((Below.refl _ _).alloc (Nat.le_refl _) _).trans (hb1.mono (by simp))⟩

end Go.Proofs.Ytnnoaolceeendaa
