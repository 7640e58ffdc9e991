import Derived.Test.YtnnoaolceeendaaWinC
import Derived.Deep.QuietTactic
import Derived.BigQuiet
namespace Go.Proofs.Ytnnoaolceeendaa
open Go.ChangeShapes Go.WideShapes Go.ChangeAt Go.RowKit

theorem gw_bd {a b : Int} (h : gwB a b = true) : 1 ≤ b ∧ b ≤ a ∧ a ≤ 10 * b ∧ a ≤ 1000 := by
  simp only [gwB, Bool.and_eq_true, decide_eq_true_eq] at h
  have h1 := win_bd h.1
  have h2 := win_bd h.2.1
  omega

/-- What Windows answers: the list's row, and the error's number. -/
def winsOf (t size slide : Int) : List Int := if gwB size slide = true then wins t size slide else []
def winsNo (size slide : Int) : Int := if gwB size slide = true then 0 else 1

theorem Windows_any (t size slide : Int) (w : World) (ht1 : -9223372036854775808 ≤ t) (ht2 : t ≤ 9223372036854775807) :
    Calls Try.prog 5 #[.int .i64 t, .int .i64 size, .int .i64 slide] w fun e w' => ∃ v, e = .returned (.tuple #[v, .int .i64 (winsNo size slide)]) ∧ w'.ownsRow w.heap.size 3 1 v (winsOf t size slide).length ((winsOf t size slide).map (Value.int .i64)) ∧ Below w.heap.size w w' := by
  cases h : gwB size slide
  · have e1 : winsOf t size slide = [] := by simp [winsOf, h]
    have e2 : winsNo size slide = 1 := by simp [winsNo, h]
    rw [e1, e2]
    clear e1 e2
    go_enter Try.func5, Try.ntmps5
    go_wp2_with (go_at_call 12; refine (goodWidths_any _ _ _).mono ?_; rintro e w' ⟨rfl, rfl⟩)
    go_ret2
    exact ⟨_, rfl, World.ownsRow_nil _ _ _ _, Below.refl _ _⟩
  · have e1 : winsOf t size slide = wins t size slide := by simp [winsOf, h]
    have e2 : winsNo size slide = 0 := by simp [winsNo, h]
    rw [e1, e2]
    clear e1 e2
    obtain ⟨g1, g2, g3, g4⟩ := gw_bd h
    go_enter Try.func5, Try.ntmps5
    go_wp2_with (first
      | (go_at_call 12; refine (goodWidths_any _ _ _).mono ?_; rintro e w' ⟨rfl, rfl⟩)
      | (go_at_call 13; refine (begins_any _ _ _ _ ht1 ht2 g1 g2 g3 g4).mono ?_; rintro e w' ⟨v, rfl, hown, hb⟩))
    go_ret2
    exact ⟨_, rfl, hown, hb⟩

theorem RWindows_any (t size slide : Int) (w : World) (ht1 : -9223372036854775808 ≤ t) (ht2 : t ≤ 9223372036854775807) :
    Calls Try.prog 6 #[.int .i64 t, .int .i64 size, .int .i64 slide] w fun e w' => ∃ v, e = .returned (.tuple #[v, .int .i64 (winsNo size slide)]) ∧ w'.ownsRow w.heap.size 3 1 v (winsOf t size slide).length ((winsOf t size slide).map (Value.int .i64)) ∧ Below w.heap.size w w' := by
  cases h : gwB size slide
  · have e1 : winsOf t size slide = [] := by simp [winsOf, h]
    have e2 : winsNo size slide = 1 := by simp [winsNo, h]
    rw [e1, e2]
    clear e1 e2
    go_enter Try.func6, Try.ntmps6
    go_wp2_with (go_at_call 14; refine (sized_any _ _ _).mono ?_; rintro e w' ⟨rfl, rfl⟩)
    go_ret2
    exact ⟨_, rfl, World.ownsRow_nil _ _ _ _, Below.refl _ _⟩
  · have e1 : winsOf t size slide = wins t size slide := by simp [winsOf, h]
    have e2 : winsNo size slide = 0 := by simp [winsNo, h]
    rw [e1, e2]
    clear e1 e2
    obtain ⟨g1, g2, g3, g4⟩ := gw_bd h
    go_enter Try.func6, Try.ntmps6
    go_wp2_with (first
      | (go_at_call 14; refine (sized_any _ _ _).mono ?_; rintro e w' ⟨rfl, rfl⟩)
      | (go_at_call 15; refine (rbegins_any _ _ _ _ ht1 ht2 g1 g2 g4).mono ?_; rintro e w' ⟨v, rfl, hown, hb⟩))
    go_ret2
    exact ⟨_, rfl, hown, hb⟩

/-- An owned row's value, written out: its address is whatever where it is empty. -/
theorem owns_view {w : World} {B : Nat} {v : Value} {xs : List Int} (h : w.ownsRow B 3 1 v xs.length (xs.map (Value.int .i64))) :
    (v = .slice none 0 0 ∧ xs = []) ∨ ∃ g cap, v = .slice (some ⟨g, 0, none⟩) xs.length cap ∧ B ≤ g ∧ g < w.heap.size ∧ (∀ k, k < xs.length → w.cell? ⟨g, k, none⟩ = some (.int .i64 (xs.getD k 0))) := by
  have h0 := h
  rcases h.2 with ⟨rfl, h2⟩ | ⟨g, cap, cur, rfl, hg, hh, _⟩
  · exact .inl ⟨rfl, List.length_eq_zero_iff.1 h2⟩
  · refine .inr ⟨g, cap, rfl, hg, lt_of_block hh, fun k hk => ?_⟩
    rw [h0.cellAt k (by omega)]
    simp [List.getD, List.getElem?_eq_getElem hk]

theorem below_drawn (w : World) (n : Nat) : Below w.heap.size w (w.drewN n) := ⟨rfl, rfl, rfl, Nat.le_refl _, fun _ _ => rfl⟩

theorem ints_none (a1 a2 : Option Addr) (c1 c2 : Nat) (w : World) :
    Calls Try.prog 7 #[.slice a1 0 c1, .slice a2 0 c2] w fun e w' => e = .returned (.bool true) ∧ Below w.heap.size w w' := by
  go_enter Try.func7, Try.ntmps7
  go_wp2
  refine wp_loop_rounds 1 ?_
  rw [rounds_succ]
  go_wp2
  go_ret
  exact ⟨rfl, Below.refl _ _⟩

theorem ints_same (xs : List Int) (hl : xs.length ≤ 11) (g1 g2 c1 c2 : Nat) (w : World) (h1 : ∀ k, k < xs.length → w.cell? ⟨g1, k, none⟩ = some (.int .i64 (xs.getD k 0))) (h2 : ∀ k, k < xs.length → w.cell? ⟨g2, k, none⟩ = some (.int .i64 (xs.getD k 0))) :
    Calls Try.prog 7 #[.slice (some ⟨g1, 0, none⟩) xs.length c1, .slice (some ⟨g2, 0, none⟩) xs.length c2] w fun e w' => e = .returned (.bool true) ∧ Below w.heap.size w w' := by
  have H1 : Hid _ := h1
  have H2 : Hid _ := h2
  clear h1 h2
  go_enter Try.func7, Try.ntmps7
  go_wp2
  go_loopw [5] (fun i wr => ∃ k : Nat, k ≤ xs.length ∧ i = .int .i64 k ∧ ∃ n, wr = w.drewN n) (fun i _ => xs.length - (intOf i).toNat)
  case atStart => exact ⟨0, Nat.zero_le _, rfl, 0, rfl⟩
  case round =>
    obtain ⟨k, hk, rfl, n, rfl⟩ := hrel
    by_cases hlt : k < xs.length
    · have c1 := H1.out k hlt
      have c2 := H2.out k hlt
      generalize xs.getD k 0 = y at c1 c2
      go_wp2_with fail
      go_quiet (fail)
      go_wp2
      go_roundw
      case rel => exact ⟨k + 1, by omega, by go_num, _, rfl⟩
      case measure => simp [intOf]; omega
    · go_wp2
      go_ret
      exact ⟨rfl, below_drawn _ _⟩

/-- Two rows that hold the same numbers are the same. -/
theorem ints_own (xs : List Int) (hl : xs.length ≤ 11) (B1 B2 : Nat) (v1 v2 : Value) (w : World) (h1 : w.ownsRow B1 3 1 v1 xs.length (xs.map (Value.int .i64))) (h2 : w.ownsRow B2 3 1 v2 xs.length (xs.map (Value.int .i64))) :
    Calls Try.prog 7 #[v1, v2] w fun e w' => e = .returned (.bool true) ∧ Below w.heap.size w w' := by
  rcases owns_view h1 with ⟨rfl, hx⟩ | ⟨g1, k1, rfl, _, _, c1⟩ <;> rcases owns_view h2 with ⟨rfl, hx'⟩ | ⟨g2, k2, rfl, _, _, c2⟩
  · exact ints_none _ _ _ _ w
  · subst hx; exact ints_none _ _ _ _ w
  · subst hx'; exact ints_none _ _ _ _ w
  · exact ints_same xs hl g1 g2 k1 k2 w c1 c2

theorem below_grown {w w' : World} (h : Below w.heap.size w w') : w.grownBy w' none := ⟨h.os, h.tape, h.output, h.size, fun k hk _ => h.block k hk⟩
theorem owns_below {w w' : World} {B e size : Nat} {v : Value} {n : Nat} {xs : List Value} (h : w.ownsRow B e size v n xs) (hb : Below w.heap.size w w') : w'.ownsRow B e size v n xs :=
  h.kept (below_grown hb) (by cases v.ownBlock <;> simp)

/-- What the loop that spoils the second list holds. -/
structure Spoil (B1 B2 : Nat) (v1 v2 : Value) (L : List Int) (n : Nat) (w wr : World) : Prop where
  first : wr.ownsRow B1 3 1 v1 L.length (L.map (Value.int .i64))
  apart : ∀ g, v1.ownBlock = some g → g < B2
  second : ∃ xs, wr.ownsRow B2 3 1 v2 n xs
  below : Below B1 w wr
  le : B1 ≤ B2

theorem Spoil.step {B1 B2 : Nat} {v1 : Value} {L : List Int} {n : Nat} {w wr : World} {g cap k : Nat} {u : Value} (h : Spoil B1 B2 v1 (.slice (some ⟨g, 0, none⟩) n cap) L n w wr) :
    Spoil B1 B2 v1 (.slice (some ⟨g, 0, none⟩) n cap) L n w (wr.setCell ⟨g, k, none⟩ u) := by
  obtain ⟨xs, hx⟩ := h.second
  have hg := (hx.lt g rfl).1
  exact ⟨ownsRow_setCell_other h.first (fun e => by have := h.apart _ e; simp at this; omega) _, h.apart, ⟨_, (hx.stored k u).1⟩, h.below.setCell (by have := h.le; simp; omega) _, h.le⟩

theorem Spoil.cell {B1 B2 : Nat} {v1 v2 : Value} {L : List Int} {n : Nat} {w wr : World} (h : Spoil B1 B2 v1 v2 L n w wr) {k : Nat} (hk : k < n) :
    ∃ g cap u, v2 = .slice (some ⟨g, 0, none⟩) n cap ∧ wr.cell? ⟨g, k, none⟩ = some u ∧ wr.frozen? ⟨g, k, none⟩ = false := by
  obtain ⟨xs, hx⟩ := h.second
  have h0 := hx
  rcases hx.2 with ⟨_, h2⟩ | ⟨g, cap, cur, rfl, hg, hh, _⟩
  · omega
  · have hl : xs.length = n := by have := h0.1; omega
    exact ⟨g, cap, xs[k]'(by omega), rfl, by rw [h0.cellAt k (by omega)]; exact List.getElem?_eq_getElem _, h0.frozenAt k⟩

theorem owns_slice {w : World} {B e size : Nat} {v : Value} {n : Nat} {xs : List Value} (h : w.ownsRow B e size v n xs) : ∃ a cap, v = .slice a n cap := by
  rcases h.2 with ⟨rfl, rfl⟩ | ⟨g, cap, cur, rfl, _⟩
  · exact ⟨_, _, rfl⟩
  · exact ⟨_, _, rfl⟩

theorem winsOf_len (t size slide : Int) : (winsOf t size slide).length ≤ 11 := by
  unfold winsOf
  split
  · exact sel_len _ _ _ _ 11
  · simp
end Go.Proofs.Ytnnoaolceeendaa
