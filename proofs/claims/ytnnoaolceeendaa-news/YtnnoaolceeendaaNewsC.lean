import Derived.Test.YtnnoaolceeendaaNewsB
namespace Go.Proofs.Ytnnoaolceeendaa
open Go.ChangeShapes Go.WideShapes Go.ChangeAt Go.RowKit

theorem Try.cells51 : Try.prog.cellsOf 51 = 258 := by kernel_rfl
theorem Try.info65 : (Try.prog.info? 65).map (fun i => (i.zero, i.size, i.bytes)) = some (some (.agg #[.int .i64 0, .int .i64 0, .bool false]), 3, 24) := by kernel_rfl

theorem newParts_any (n : Int) (h1 : 1 ≤ n) (h8 : n ≤ 8) (w : World) :
    Calls Try.prog 17 #[.int .i64 n] w fun r w' => ∃ g, r = .returned (.slice (some ⟨g, 0, none⟩) n.toNat n.toNat) ∧ Below w.heap.size w w' := by
  obtain ⟨m, rfl⟩ := Int.eq_ofNat_of_zero_le (show 0 ≤ n by omega)
  obtain ⟨i0, hi, hz0, hz1, hz2⟩ := info_parts Try.info65
  go_enter Try.func17, Try.ntmps17
  go_wp2_with (at_make; refine wpList_make_full _ rfl _ _ 45 rfl w.heap.size 65 i0 _ 3 Try.underlying45 hi hz0 hz1 _ _ _ _ m rfl rfl rfl rfl (by rw [hz2]; omega) (by unfold maxLen; omega) (by simp) ?_; intro w1 hown hgrow)
  go_loopw [9] (fun i wr => ∃ k : Nat, k ≤ m ∧ i = .int .i64 k ∧ (∃ xs, wr.ownsRow w.heap.size 65 3 (.slice (some ⟨w.heap.size, 0, none⟩) m m) m xs) ∧ Below w.heap.size w wr) (fun i _ => m - (intOf i).toNat)
  case atStart => exact ⟨0, Nat.zero_le _, rfl, ⟨_, hown⟩, (Below.refl _ _).grown hgrow (Nat.le_refl _) (by simp)⟩
  case round =>
    obtain ⟨k, hk, rfl, ⟨xs, hx⟩, hb⟩ := hrel
    clear hown hgrow
    by_cases hlt : k < m
    · have hl : xs.length = m * 3 := hx.1
      obtain ⟨v0, hc⟩ : ∃ v0, wr.cell? ⟨w.heap.size, k * 3 + 1, none⟩ = some v0 :=
        ⟨xs[k * 3 + 1]'(by omega), by rw [hx.cellAt (k * 3 + 1) (by omega)]; exact List.getElem?_eq_getElem _⟩
      have hf := hx.frozenAt (k * 3 + 1)
      have hs := (hx.stored (k * 3 + 1) (.int .i64 (-9223372036854775808))).1
      have HS : Hid _ := hs
      clear hs hl
      go_wp2
      go_roundw
      case rel => exact ⟨k + 1, by omega, by go_num, ⟨_, HS.out⟩, hb.setCell (Nat.le_refl _) _⟩
      case measure => simp [intOf]; omega
    · go_wp2
      go_ret
      exact ⟨_, rfl, hb⟩

def wz : Array Value := #[.int .i64 0, .map none] ++ Array.replicate 256 (.slice none 0 0)
theorem wz_size : wz.size = 258 := by simp [wz]
theorem Try.info51 : (Try.prog.info? 51).map (fun i => (i.zero, i.size)) = some (some (.agg wz), 258) := by kernel_rfl
theorem zero51 (w : World) : (zeroValue 51).run Try.prog w = .ok (.agg wz) w := by
  have h := Try.info51
  cases hq : Try.prog.info? 51 with
  | none => simp [hq] at h
  | some i =>
    simp only [hq, Option.map_some, Option.some.injEq, Prod.mk.injEq] at h
    simp [zeroValue, typeInfo, hq, h.1]


end Go.Proofs.Ytnnoaolceeendaa
