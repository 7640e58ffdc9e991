import Derived.Test.YtnnoaolceeendaaGreatDoorRefB
namespace Go.Proofs.YtnnoaolceeendaaGreatDoor
open Go.ChangeShapes Go.WideShapes Go.ChangeAt Go.RowKit

/-- A pane of a row, its cells written out. -/
theorem pn_at {w : World} {B e : Nat} {v : Value} {l : List (M.Pn ByteArray)} (h : RowIs pnC w B e 4 v l) {i : Nat} {x : M.Pn ByteArray} (hx : l[i]? = some x) :
    ∃ g cap, v = .slice (some ⟨g, 0, none⟩) l.length cap ∧ B ≤ g ∧ g < w.heap.size ∧ w.cell? ⟨g, i * 4, none⟩ = some (.int .i64 x.start) ∧ w.cell? ⟨g, i * 4 + 1, none⟩ = some (.int .i64 x.stop) ∧ w.cell? ⟨g, i * 4 + 2, none⟩ = some (.string x.key) ∧ w.cell? ⟨g, i * 4 + 3, none⟩ = some (.int .i64 x.n) := by
  obtain ⟨g, cap, ev, h1, h2, h3, _⟩ := h.at pnC_len hx
  exact ⟨g, cap, ev, h1, h2, h3 0 (by omega), h3 1 (by omega), h3 2 (by omega), h3 3 (by omega)⟩

theorem keep4 {W w1 : World} {B b : Nat} (hb : Below B W w1) (hlt : b < B) {v0 v1 v2 v3 : Value} (k0 : W.cell? ⟨b, 0, none⟩ = some v0) (k1 : W.cell? ⟨b, 1, none⟩ = some v1) (k2 : W.cell? ⟨b, 2, none⟩ = some v2) (k3 : W.cell? ⟨b, 3, none⟩ = some v3) :
    w1.cell? ⟨b, 0, none⟩ = some v0 ∧ w1.cell? ⟨b, 1, none⟩ = some v1 ∧ w1.cell? ⟨b, 2, none⟩ = some v2 ∧ w1.cell? ⟨b, 3, none⟩ = some v3 :=
  ⟨(hb.cell (p := ⟨b, 0, none⟩) hlt).trans k0, (hb.cell (p := ⟨b, 1, none⟩) hlt).trans k1, (hb.cell (p := ⟨b, 2, none⟩) hlt).trans k2, (hb.cell (p := ⟨b, 3, none⟩) hlt).trans k3⟩

theorem below_box {w wr : World} {o : Obj} (h : Below (w.heap.size + 1) (w.alloc o) wr) : Below w.heap.size w wr :=
  ((Below.refl _ _).alloc (Nat.le_refl _) _).trans (h.mono (by omega))

set_option maxRecDepth 100000 in
set_option maxHeartbeats 2000000 in
theorem rinsert_any (p : M.Pn ByteArray) (l : List (M.Pn ByteArray)) (B : Nat) (v : Value) (w : World) (hl : RowIs pnC w B 101 4 v l) (hn : l.length ≤ 100000000) :
    Calls Tryz.prog 41 #[v, .agg #[.int .i64 p.start, .int .i64 p.stop, .string p.key, .int .i64 p.n]] w fun e w' => ∃ v', e = .returned v' ∧ RowIs pnC w' w.heap.size 101 4 v' (M.insP ltK p l) ∧ Below w.heap.size w w' := by
  obtain ⟨i0, hi, hz0, hz1, hz2⟩ := info_parts Tryz.infoPn
  obtain ⟨a0, cap, rfl⟩ := hl.slice
  have HL := hideP hl
  clear hl
  go_enter Tryz.func41, Tryz.ntmps41
  go_wp2
  go_loopw [5, 6, 7] (fun vo d i wr => ∃ (k : Nat) (dn : Bool) (acc : List (M.Pn ByteArray)), k ≤ l.length ∧ i = .int .i64 k ∧ d = .bool dn ∧ Hid (insAt p l k = (dn, acc)) ∧ Hid (RowIs pnC wr (w.heap.size + 1) 101 4 vo acc) ∧ Hid (Below (w.heap.size + 1) (w.alloc (.cells #[.int .i64 p.start, .int .i64 p.stop, .string p.key, .int .i64 p.n] 101)) wr))
    (fun _ _ i _ => l.length - (intOf i).toNat)
  case atStart => exact ⟨0, false, [], Nat.zero_le _, rfl, rfl, rfl, RowIs.nil _ _ _ _ _, Below.refl _ _⟩
  case round =>
    obtain ⟨k, dn, acc, hk, rfl, rfl, HI, HR, HB⟩ := hrel
    by_cases hlt : k < l.length
    · obtain ⟨x, hx⟩ : ∃ x, l[k]? = some x := ⟨_, List.getElem?_eq_getElem hlt⟩
      have HX := hideP hx
      have hbz := HB.out.size
      obtain ⟨g, cp, ev, hg1, hgw, e0, e1, e2, e3⟩ := pn_at HL.out hx
      simp only [Value.slice.injEq] at ev
      obtain ⟨rfl, _, rfl⟩ := ev
      have c0 := keepAt (below_box HB.out) hgw e0
      have c1 := keepAt (below_box HB.out) hgw e1
      have c2 := keepAt (below_box HB.out) hgw e2
      have c3 := keepAt (below_box HB.out) hgw e3
      replace e0 := hideP e0
      replace e1 := hideP e1
      replace e2 := hideP e2
      replace e3 := hideP e3
      obtain ⟨k0, k1, k2, k3⟩ := keep4 HB.out (b := w.heap.size) (by omega) (World.cell?_alloc_new ..) (World.cell?_alloc_new ..) (World.cell?_alloc_new ..) (World.cell?_alloc_new ..)
      clear hx
      have hal := insAt_len p l k
      rw [HI.out] at hal
      simp only at hal
      cases dn
      · cases hless : M.lessP ltK p x
        · have HS : Hid (insAt p l (k + 1) = (false, acc ++ [x])) := by
            show _ = _
            rw [insAt_succ p l HX.out, HI.out]; simp [insStep, hless]
          go_wp2_with fail
          go_region_with (go_at_call 67; refine (rless_any p x _).mono ?_; rintro e w1 ⟨rfl, hb1⟩)
          all_goals
            have hB1 := hideP (HB.out.drew.trans (hb1.mono (by simpa using hbz)))
            have hR1 := hideP (HR.out.below (w' := w1) ((Below.refl _ _).drew.trans hb1))
            have hsz1 : w.heap.size + 1 ≤ w1.heap.size := by have := hB1.out.size; simpa using this
            have d0 := keepAt (below_box hB1.out) hgw e0.out
            have d1 := keepAt (below_box hB1.out) hgw e1.out
            have d2 := keepAt (below_box hB1.out) hgw e2.out
            have d3 := keepAt (below_box hB1.out) hgw e3.out
            clear c0 c1 c2 c3 hb1
            go_wp2_with (at_builtin; refine wpList_push _ rfl _ _ 55 rfl (w.heap.size + 1) 101 i0 _ 4 40 Tryz.underlying55 hi hz0 hz1 hz2 rfl (by decide) _ acc x rfl hR1.out _ rfl rfl rfl (pnC_one _) (by omega) (by unfold maxLen; omega) (by omega) ?_; intro v2 w2 hr2 hb2)
            have hR2 := hideP hr2
            have hB2 := hideP (hB1.out.trans hb2)
            clear hr2 hb2
            go_wp2
            go_roundw
            case rel => exact ⟨k + 1, _, _, by omega, by go_num, rfl, HS, hR2, hB2⟩
            case measure => simp [intOf]; omega
        · have HS : Hid (insAt p l (k + 1) = (true, (acc ++ [p]) ++ [x])) := by
            show _ = _
            rw [insAt_succ p l HX.out, HI.out]; simp [insStep, hless]
          go_wp2_with fail
          go_region_with (go_at_call 67; refine (rless_any p x _).mono ?_; rintro e w1 ⟨rfl, hb1⟩)
          all_goals
            obtain ⟨j0, j1, j2, j3⟩ := keep4 hb1 (b := w.heap.size) (by simp at hbz ⊢; omega) k0 k1 k2 k3
            have hB1 := hideP (HB.out.drew.trans (hb1.mono (by simpa using hbz)))
            have hR1 := hideP (HR.out.below (w' := w1) ((Below.refl _ _).drew.trans hb1))
            have hsz1 : w.heap.size + 1 ≤ w1.heap.size := by have := hB1.out.size; simpa using this
            have d0 := keepAt (below_box hB1.out) hgw e0.out
            have d1 := keepAt (below_box hB1.out) hgw e1.out
            have d2 := keepAt (below_box hB1.out) hgw e2.out
            have d3 := keepAt (below_box hB1.out) hgw e3.out
            clear c0 c1 c2 c3 hb1
            clear k0 k1 k2 k3
            go_wp2_with (first
              | (at_builtin; refine wpList_push _ rfl (.tmp 24) (.tmp 26) 55 rfl (w.heap.size + 1) 101 i0 _ 4 40 Tryz.underlying55 hi hz0 hz1 hz2 rfl (by decide) _ acc p rfl hR1.out _ rfl rfl rfl (pnC_one _) (by omega) (by unfold maxLen; omega) (by omega) ?_; intro v2 w2 hr2 hb2; have hR2 := hideP hr2; have hB2 := hideP (hB1.out.trans hb2); have hsz2 : w.heap.size + 1 ≤ w2.heap.size := (by have := hB2.out.size; simpa using this); have f0 := keepAt (below_box hB2.out) hgw e0.out; have f1 := keepAt (below_box hB2.out) hgw e1.out; have f2 := keepAt (below_box hB2.out) hgw e2.out; have f3 := keepAt (below_box hB2.out) hgw e3.out; clear hr2 hb2 d0 d1 d2 d3 j0 j1 j2 j3)
              | (at_builtin; refine wpList_push _ rfl (.tmp 28) (.tmp 33) 55 rfl (w.heap.size + 1) 101 i0 _ 4 40 Tryz.underlying55 hi hz0 hz1 hz2 rfl (by decide) _ (acc ++ [p]) x rfl hR2.out _ rfl rfl rfl (pnC_one _) (by simp; omega) (by unfold maxLen; simp; omega) (by omega) ?_; intro v3 w3 hr3 hb3))
            have hR3 := hideP hr3
            have hB3 := hideP (hB2.out.trans hb3)
            clear hr3 hb3
            go_wp2
            go_roundw
            case rel => exact ⟨k + 1, _, _, by omega, by go_num, rfl, HS, hR3, hB3⟩
            case measure => simp [intOf]; omega
      · have HS : Hid (insAt p l (k + 1) = (true, acc ++ [x])) := by
          show _ = _
          rw [insAt_succ p l HX.out, HI.out]; simp [insStep]
        go_wp2_with fail
        go_quiet (fail)
        generalize hwq : wr.drewN nq = wq
        have hbq : Below wr.heap.size wr wq := by rw [← hwq]; exact ⟨rfl, rfl, rfl, Nat.le_refl _, fun _ _ => rfl⟩
        have hB1 := hideP (HB.out.trans (hbq.mono (by simpa using hbz)))
        have hR1 := hideP (HR.out.below hbq)
        have hsz1 : w.heap.size + 1 ≤ wq.heap.size := by have := hB1.out.size; simpa using this
        have d0 := keepAt (below_box hB1.out) hgw e0.out
        have d1 := keepAt (below_box hB1.out) hgw e1.out
        have d2 := keepAt (below_box hB1.out) hgw e2.out
        have d3 := keepAt (below_box hB1.out) hgw e3.out
        clear c0 c1 c2 c3 hwq hbq
        go_wp2_with (at_builtin; refine wpList_push _ rfl _ _ 55 rfl (w.heap.size + 1) 101 i0 _ 4 40 Tryz.underlying55 hi hz0 hz1 hz2 rfl (by decide) _ acc x rfl hR1.out _ rfl rfl rfl (pnC_one _) (by omega) (by unfold maxLen; omega) (by omega) ?_; intro v2 w2 hr2 hb2)
        have hR2 := hideP hr2
        have hB2 := hideP (hB1.out.trans hb2)
        clear hr2 hb2
        go_wp2
        go_roundw
        case rel => exact ⟨k + 1, _, _, by omega, by go_num, rfl, HS, hR2, hB2⟩
        case measure => simp [intOf]; omega
    · have hend : Hid (insEnd p (dn, acc) = M.insP ltK p l) := by
        show _ = _
        rw [← HI.out]
        unfold insAt
        rw [List.take_of_length_le (by omega), ins_false]
        simp
      have hbz := HB.out.size
      have hal := insAt_len p l k
      rw [HI.out] at hal
      simp only at hal
      cases dn
      · obtain ⟨k0, k1, k2, k3⟩ := keep4 HB.out (b := w.heap.size) (by omega) (World.cell?_alloc_new ..) (World.cell?_alloc_new ..) (World.cell?_alloc_new ..) (World.cell?_alloc_new ..)
        have hsz1 : w.heap.size + 1 ≤ wr.heap.size := by simpa using hbz
        go_wp2_with (at_builtin; refine wpList_push _ rfl _ _ 55 rfl (w.heap.size + 1) 101 i0 _ 4 40 Tryz.underlying55 hi hz0 hz1 hz2 rfl (by decide) _ acc p rfl HR.out _ rfl rfl rfl (pnC_one _) (by omega) (by unfold maxLen; omega) (by omega) ?_; intro v2 w2 hr2 hb2)
        have hR2 := hideP hr2
        have hB2 := hideP (HB.out.trans hb2)
        clear hr2 hb2
        go_wp2
        go_ret
        refine ⟨_, rfl, ?_, below_box hB2.out⟩
        rw [← hend.out]
        exact hR2.out.base (by omega)
      · go_wp2
        go_ret
        refine ⟨_, rfl, ?_, below_box HB.out⟩
        rw [← hend.out]
        exact HR.out.base (by omega)
end Go.Proofs.YtnnoaolceeendaaGreatDoor
