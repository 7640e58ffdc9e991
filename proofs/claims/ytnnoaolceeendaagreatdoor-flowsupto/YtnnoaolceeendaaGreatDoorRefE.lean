import Derived.Test.YtnnoaolceeendaaGreatDoorRefD
namespace Go.Proofs.YtnnoaolceeendaaGreatDoor
open Go.ChangeShapes Go.WideShapes Go.ChangeAt Go.RowKit

set_option maxRecDepth 100000 in
set_option maxHeartbeats 2000000 in
theorem rcount_any (size slide bound idle parts fold start : Int) (e : M.Ev ByteArray) (l : List (M.Pn ByteArray)) (B : Nat) (v : Value) (w : World) (hl : RowIs pnC w B 101 4 v l) (hn : l.length ≤ 100000000) (hB : B ≤ w.heap.size)
    (hf0 : 0 ≤ fold) (hf3 : fold ≤ 3) (hs1 : -9223372036854775808 ≤ start + size) (hs2 : start + size ≤ 9223372036854775807) :
    Calls Tryz.prog 40 #[v, .agg #[.int .i64 size, .int .i64 slide, .int .i64 bound, .int .i64 idle, .int .i64 parts, .int .i64 fold], .int .i64 start, .agg #[.int .i64 e.part, .string e.key, .int .i64 e.at_, .int .i64 e.val]] w
      fun r w' => ∃ v', r = .returned v' ∧ RowIs pnC w' B 101 4 v' (M.countP size fold start e.key e.val l) ∧ Grows w w' v v' := by
  obtain ⟨i0, hi, hz0, hz1, hz2⟩ := info_parts Tryz.infoPn
  obtain ⟨a0, cap, rfl⟩ := hl.slice
  have HL := hideP hl
  clear hl
  go_enter Tryz.func40, Tryz.ntmps40
  go_wp2
  go_loopw [9] (fun i wr => ∃ (k n : Nat), k ≤ l.length ∧ i = .int .i64 k ∧ Hid (∀ j y, j < k → l[j]? = some y → ¬ (y.start = start ∧ y.key = e.key)) ∧
      wr = (((w.alloc (.cells #[.int .i64 size, .int .i64 slide, .int .i64 bound, .int .i64 idle, .int .i64 parts, .int .i64 fold] 23)).alloc (.cells #[.int .i64 e.part, .string e.key, .int .i64 e.at_, .int .i64 e.val] 90)).drewN n))
    (fun i _ => l.length - (intOf i).toNat)
  case atStart => exact ⟨0, 0, Nat.zero_le _, rfl, fun j y hj => by omega, rfl⟩
  case round =>
    obtain ⟨k, n, hk, rfl, HN, hwr⟩ := hrel
    have hB2 : Below w.heap.size w wr := by
      rw [hwr]
      exact (((Below.refl _ _).alloc (Nat.le_refl _) _).alloc (by simp) _).trans ⟨rfl, rfl, rfl, Nat.le_refl _, fun _ _ => rfl⟩
    have kc5 : wr.cell? ⟨w.heap.size, 5, none⟩ = some (.int .i64 fold) := by rw [hwr]; go_simp
    have kc0 : wr.cell? ⟨w.heap.size, 0, none⟩ = some (.int .i64 size) := by rw [hwr]; go_simp
    have ke1 : wr.cell? ⟨w.heap.size + 1, 1, none⟩ = some (.string e.key) := by rw [hwr]; go_simp
    have ke3 : wr.cell? ⟨w.heap.size + 1, 3, none⟩ = some (.int .i64 e.val) := by rw [hwr]; go_simp
    have hsz : w.heap.size + 2 ≤ wr.heap.size := by rw [hwr]; simp [World.drewN]
    have HW := hideP hwr
    have HB := hideP hB2
    clear hwr hB2
    by_cases hlt : k < l.length
    · obtain ⟨x, hx⟩ : ∃ x, l[k]? = some x := ⟨_, List.getElem?_eq_getElem hlt⟩
      have HX := hideP hx
      obtain ⟨g, cp, ev, hg1, hgw, e0, e1, e2, e3⟩ := pn_at HL.out hx
      simp only [Value.slice.injEq] at ev
      obtain ⟨rfl, _, rfl⟩ := ev
      have c0 := keepAt HB.out hgw e0
      have c2 := keepAt HB.out hgw e2
      have c3 := keepAt HB.out hgw e3
      have hfr : wr.frozen? ⟨g, k * 4 + 3, none⟩ = false := World.ownsRow.frozenAt (HL.out.below HB.out) (k * 4 + 3)
      clear hx e0 e1 e2 e3
      have i1 : (0 : Int) ≤ (k : Int) := by omega
      have i2 : (k : Int) < (l.length : Int) := by omega
      by_cases hst : x.start = start
      · have t1 : (x.start == start) = true := by simp [hst]
        by_cases hky : x.key = e.key
        · have t2 : (x.key.toList == e.key.toList) = true := by simp [hky]
          have HM := hideP (⟨hst, hky⟩ : x.start = start ∧ x.key = e.key)
          clear hst hky
          go_wp2_with fail
          go_quiet (fail)
          go_wp2_with fail
          go_region_with (go_at_call 65; refine (rfold_any _ _ _ _ hf0 hf3).mono ?_; rintro r w' ⟨rfl, rfl⟩)
          all_goals
            go_wp2
            go_ret
            have hset := (HL.out.below HB.out).set pnC_len (y := { x with n := M.foldV fold x.n e.val }) (j := 3) (u := .int .i64 (M.foldV fold x.n e.val)) HX.out (by omega) rfl
            refine ⟨_, rfl, ?_, ?_⟩
            · rw [countP_hit HX.out HN.out HM.out]
              exact hset.1
            · exact (Grows.trans_left (w' := wr.setCell ⟨g, k * 4 + 3, none⟩ (.int .i64 (M.foldV fold x.n e.val))) (by simpa using hset.2) HB.out).drawn
        · have t2 : (x.key.toList == e.key.toList) = false := by rw [str_beq]; simp [hky]
          have HM := hideP (fun h => hky h.2 : ¬ (x.start = start ∧ x.key = e.key))
          clear hst hky
          go_wp2_with fail
          go_quiet (fail)
          go_wp2
          go_roundw
          case rel => exact ⟨k + 1, n + nq, by omega, by go_num, fun j y hj hy => (Nat.lt_succ_iff_lt_or_eq.1 hj).elim (fun h => HN.out j y h hy) (fun h => by subst h; rw [HX.out] at hy; cases hy; exact HM.out), by rw [HW.out]; simp [World.drewN, Nat.add_assoc]⟩
          case measure => simp [intOf]; omega
      · have t1 : (x.start == start) = false := by simp [hst]
        have HM := hideP (fun h => hst h.1 : ¬ (x.start = start ∧ x.key = e.key))
        clear hst
        go_wp2_with fail
        go_quiet (fail)
        go_wp2
        go_roundw
        case rel => exact ⟨k + 1, n + nq, by omega, by go_num, fun j y hj hy => (Nat.lt_succ_iff_lt_or_eq.1 hj).elim (fun h => HN.out j y h hy) (fun h => by subst h; rw [HX.out] at hy; cases hy; exact HM.out), by rw [HW.out]; simp [World.drewN, Nat.add_assoc]⟩
        case measure => simp [intOf]; omega
    · have hskip := hideP (countP_skip (size := size) (fold := fold) (b := start) (v := e.val) (key := e.key) (l := l) (fun x hx => by
        obtain ⟨j, hj⟩ := List.mem_iff_getElem?.1 hx
        exact HN.out j x (by have := (List.getElem?_eq_some_iff.1 hj).1; omega) hj))
      have hown := hideP (HL.out.below HB.out)
      have ag : ∀ b, w.heap.size ≤ b → some b ≠ (Value.slice a0 l.length cap).ownBlock := fun b hb he => by have := (HL.out.lt b he.symm).2; omega
      have AG := hideP ag
      have hwrap : Hid (IntKind.i64.wrap (start + size) = start + size) := by
        show _ = _
        rw [IntKind.wrap_i64]
        omega
      clear ag
      go_wp2_with fail
      go_region_held3 (fun w' => w'.cell? ⟨w.heap.size, 5, none⟩ = some (.int .i64 fold) ∧ w'.cell? ⟨w.heap.size, 0, none⟩ = some (.int .i64 size) ∧ w'.cell? ⟨w.heap.size + 1, 1, none⟩ = some (.string e.key) ∧ w'.cell? ⟨w.heap.size + 1, 3, none⟩ = some (.int .i64 e.val))
        (first
          | go_keep
          | (go_split_ands
             refine ⟨?_, ?_, ?_, ?_⟩
             · (rw [hgrow.cell_far _ (by simp; omega) (AG.out _ (by simp))]; assumption)
             · (rw [hgrow.cell_far _ (by simp; omega) (AG.out _ (by simp))]; assumption)
             · (rw [hgrow.cell_far _ (by simp; omega) (AG.out _ (by simp))]; assumption)
             · (rw [hgrow.cell_far _ (by simp; omega) (AG.out _ (by simp))]; assumption)))
        ((first
          | (go_at_call 66; refine (rfirst_any _ _ _).mono ?_; rintro r w' ⟨rfl, rfl⟩)
          | (refine step_append_lies _ (by rfl) _ _ _ (by rfl) B 101 i0 _ 4 40 Tryz.underlying55 hi hz0 hz1 hz2 rfl (by omega) (.slice a0 l.length cap) l.length (l.flatMap pnC) (by rfl) (((World.ownsRow.alloc hown.out _)).drew)
              ⟨wr.heap.size, 0, none⟩ 1 1 (pnC ⟨start, start + size, e.key, M.firstV fold e.val⟩) (by rfl) (by rfl) (by have h := World.news_of_block (w := (wr.alloc (.cells #[.int .i64 start, .int .i64 (IntKind.i64.wrap (start + size)), .string e.key, .int .i64 (M.firstV fold e.val)] 101)).drew) (cs := #[.int .i64 start, .int .i64 (IntKind.i64.wrap (start + size)), .string e.key, .int .i64 (M.firstV fold e.val)]) (t := 101) (fr := (0, 0)) (heap_alloc_new wr _); rw [hwrap.out] at h ⊢; exact h) (pnC_one _)
              (by omega) (by unfold maxLen; omega) (by omega) (by simp; omega) (wr.heap.size + 1) (by simp) ?_; intro gg cap' w1 hown1 hgrow hat hlt1)))
      go_wp2
      go_ret
      have hr : RowIs pnC w1 B 101 4 (.slice (some ⟨gg, 0, none⟩) (l.length + 1) cap') (l ++ [⟨start, start + size, e.key, M.firstV fold e.val⟩]) := by
        unfold RowIs
        simpa using hown1
      refine ⟨.slice (some ⟨gg, 0, none⟩) (l.length + 1) cap', rfl, ?_, ?_⟩
      · rw [hskip.out]; exact hr
      · refine Grows.trans_left (w := wr) ⟨⟨hgrow.os, hgrow.tape, hgrow.output, Nat.le_trans (by simp) hgrow.size, fun q hq hne => (hgrow.block q (by simp; omega) hne).trans (Below.heap_alloc _ _ q hq)⟩, fun q hq => ?_⟩ HB.out
        simp only [Value.ownBlock, Option.some.injEq] at hq
        subst hq
        rcases hat with h | h
        · exact .inl h
        · exact .inr (by omega)
end Go.Proofs.YtnnoaolceeendaaGreatDoor
