import Derived.Test.YtnnoaolceeendaaGreatDoorFlwA
import Derived.Test.YtnnoaolceeendaaGreatDoorPgB
import Derived.Test.YtnnoaolceeendaaGreatDoorRefH
namespace Go.Proofs.YtnnoaolceeendaaGreatDoor
open Go.ChangeShapes Go.WideShapes Go.ChangeAt Go.RowKit

section
variable {w w' : World} {g : Nat} {s : FS}
theorem FlObj.at7 (h : FlObj w g s) : w.cell? ⟨g, 7, none⟩ = some (.int .i64 s.m) := h.cell (by omega)
theorem FlObj.at8 (h : FlObj w g s) : w.cell? ⟨g, 8, none⟩ = some (.map (some s.bt)) := h.cell (by omega)
theorem FlObj.atSlot (h : FlObj w g s) {l d : Nat} (hl : l < 16) (hd : d < 16) : w.cell? ⟨g, 9 + l * 16 + d, none⟩ = some (s.sv l d) := by
  rw [← s.cell_slot hl hd]
  exact h.cell (by omega)

/-- One slot is another, its row grown or new; the rest stays. -/
theorem FlowIs.slotted (h : FlowIs w g s) {l d : Nat} (hl : l < 16) (hd : d < 16) {v' : Value} {es : List Int} (hr : RowIs inC w' 0 3 1 v' es) (ht : Touch (fun k => (s.sv l d).ownBlock = some k) w w') (hv : ∀ k, v'.ownBlock = some k → (s.sv l d).ownBlock = some k ∨ w.heap.size ≤ k) :
    FlowIs (w'.setCell ⟨g, 9 + l * 16 + d, none⟩ v') g { s with sv := upd s.sv l d v', SL := upd s.SL l d es } ∧ Touch (fun k => k = g ∨ (s.sv l d).ownBlock = some k) w (w'.setCell ⟨g, 9 + l * 16 + d, none⟩ v') := by
  have hsl : ∀ k, (s.sv l d).ownBlock = some k → kd g s (.slot l d) k := fun k hk => ⟨hl, hd, hk⟩
  have hk : ∀ K k, K ≠ .slot l d → kd g s K k → w'.heap[k]? = w.heap[k]? := fun K k hK hk => ht.block k (h.foot_lt (foot_kd.2 ⟨K, hk⟩)) (fun hx => hK (kd_inj h hk (hsl k hx)))
  have hg : ∀ K k, K ≠ .slot l d → K ≠ .flow → kd g s K k → (w'.setCell ⟨g, 9 + l * 16 + d, none⟩ v').heap[k]? = w.heap[k]? := fun K k hK hF hk' => by
    rw [Below.heap_setCell w' ⟨g, 9 + l * 16 + d, none⟩ v' k (fun e => hF (kd_inj h hk' (show kd g s .flow k from e)))]
    exact hk K k hK hk'
  have hvg : ∀ k, v'.ownBlock = some k → k ≠ g := fun k hk' => by
    rcases hv k hk' with h1 | h1
    · exact fun e => by have := kd_inj h (hsl k h1) (show kd g s .flow k from e); cases this
    · have := h.ob.lt; omega
  refine ⟨⟨(h.ob.agree (hk .flow g (by simp) rfl)).setSlot hl hd v' es, h.parts.agree (fun k hk' => hg .part k (by simp) (by simp) hk'), h.tls.agree (hg .tls _ (by simp) (by simp) rfl), fun x b hb => (h.tal x b hb).agree (hg (.tal x) b (by simp) (by simp) hb), h.tin, fun a b ha hb => ?_, fun a b a' b' k ha hb ha' hb' h1 h2 => ?_,
    h.told.agree (fun k hk' => hg .pane k (by simp) (by simp) hk'), h.late.agree (fun k hk' => hg .event k (by simp) (by simp) hk')⟩, ht.mono (fun _ h => .inr h) |>.trans (Touch.set (S := fun k => k = g ∨ (s.sv l d).ownBlock = some k) (.inl rfl) _) (fun _ h => .inl h)⟩
  · by_cases e : a = l ∧ b = d
    · obtain ⟨rfl, rfl⟩ := e
      simp only [upd_same]
      exact hr.agree fun k hk' => Below.heap_setCell w' _ v' k (hvg k hk')
    · simp only [upd_other _ _ e]
      exact (h.slot a b ha hb).agree fun k hk' => hg (.slot a b) k (fun x => e (by simp only [Kd.slot.injEq] at x; exact x)) (by simp) ⟨ha, hb, hk'⟩
  · have hnew : ∀ {x y : Nat}, x < 16 → y < 16 → ¬ (x = l ∧ y = d) → (s.sv x y).ownBlock = some k → v'.ownBlock = some k → False := fun {x y} hx hy hxy h3 h4 => by
      rcases hv k h4 with h5 | h5
      · exact hxy (h.sin l d x y k hl hd hx hy h5 h3)
      · have := ((h.slot x y hx hy).lt k h3).2; omega
    by_cases e : a = l ∧ b = d <;> by_cases e' : a' = l ∧ b' = d
    · exact ⟨e'.1.trans e.1.symm, e'.2.trans e.2.symm⟩
    · obtain ⟨rfl, rfl⟩ := e
      simp only [upd_same] at h1
      simp only [upd_other _ _ e'] at h2
      exact (hnew ha' hb' e' h2 h1).elim
    · obtain ⟨rfl, rfl⟩ := e'
      simp only [upd_same] at h2
      simp only [upd_other _ _ e] at h1
      exact (hnew ha hb e h1 h2).elim
    · simp only [upd_other _ _ e] at h1
      simp only [upd_other _ _ e'] at h2
      exact h.sin a b a' b' k ha hb ha' hb' h1 h2
end

theorem Tryz.infoI : (Tryz.prog.info? 3).map (fun i => (i.zero, i.size, i.bytes)) = some (some (.int .i64 0), 1, 8) := by kernel_rfl

theorem lev_lt {s t : Int} (hs : Wh.IsT s) (ht : Wh.IsT t) (hne : s ≠ t) : Wh.levF (Wh.rk s) (Wh.rk t) < 16 := Wh.levF_lt (fun e => hne (Wh.rk_inj hs ht e)) (Wh.rk_bd hs) (Wh.rk_bd ht)

set_option maxRecDepth 100000 in
set_option maxHeartbeats 2000000 in
theorem place_any (g : Nat) (s : FS) (e : Int) (l d : Nat) (w : World) (h : FlowIs w g s) (hm : Wh.IsT s.m) (he : Wh.IsT e) (hne : s.m ≠ e) (hl : Wh.levF (Wh.rk s.m) (Wh.rk e) = l) (hd : Wh.dig l (Wh.rk e) = d) (hlen : (s.SL l d).length ≤ 100000000) :
    Calls Tryz.prog 101 #[.pointer (some ⟨g, 7, none⟩), .int .i64 e] w fun r w' => r = .returned (.tuple #[]) ∧ ∃ v', FlowIs w' g { s with sv := upd s.sv l d v', SL := upd s.SL l d (s.SL l d ++ [e]) } ∧ Touch (fun k => k = g ∨ (s.sv l d).ownBlock = some k) w w' ∧ ∀ k, v'.ownBlock = some k → (s.sv l d).ownBlock = some k ∨ w.heap.size ≤ k := by
  obtain ⟨i0, hi, hz0, hz1, hz2⟩ := info_parts Tryz.infoI
  have hl16 : l < 16 := by rw [← hl]; exact lev_lt hm he hne
  have hd16 : d < 16 := by rw [← hd]; exact Wh.dig_lt _ _
  have c7 := h.ob.at7
  have cs := h.ob.atSlot hl16 hd16
  have fz := h.ob.frozen (9 + l * 16 + d)
  have LV := hideP (level_any s.m e w hm he hne)
  rw [hl] at LV
  have DG := hideP (fun w => digit_any e l w he hl16)
  rw [hd] at DG
  have HR := hideP (h.slot l d hl16 hd16)
  have H := hideP h
  have i1 : (0 : Int) ≤ (l : Int) := by omega
  have i2 : (l : Int) < 16 := by omega
  have i3 : (0 : Int) ≤ (d : Int) := by omega
  have i4 : (d : Int) < 16 := by omega
  clear h hl hd
  go_enter Tryz.func101, Tryz.ntmps101
  go_wp2_with (go_at_call 106; refine LV.out.mono ?_; rintro r w9 ⟨rfl, rfl⟩)
  go_quiet ((go_at_call 107; exact Calls.quiet_of_same (DG.out _)))
  have HR2 : Hid (RowIs inC (w9.drewN nq) 0 3 1 (s.sv l d) (s.SL l d)) := HR.out
  have hgz := H.out.ob.lt
  go_wp2_with (at_builtin; refine wpList_push2 (enc := inC) _ rfl _ _ 40 rfl 0 3 i0 _ 1 8 Tryz.underlying40 hi hz0 hz1 hz2 rfl (by decide) _ (s.SL l d) e rfl HR2.out _ rfl rfl rfl (by intro u hu; simp [inC] at hu; subst hu; rfl) (by omega) (by unfold maxLen; omega) (by omega) ?_; intro gg cap w2 hr2 hg2 hat2; have hT := hideP (Touch.grown (S := fun k => (s.sv l d).ownBlock = some k) hg2 (fun k hk => hk)); have hgn : ¬ (s.sv l d).ownBlock = some g := (fun hx => by have := kd_inj H.out (show kd g s (.slot l d) g from ⟨hl16, hd16, hx⟩) (show kd g s .flow g from rfl); cases this); have c2 : w2.cell? ⟨g, 9 + l * 16 + d, none⟩ = some (s.sv l d) := hT.out.cell hgz hgn cs; have f2 : w2.frozen? ⟨g, 9 + l * 16 + d, none⟩ = false := ((H.out.ob.agree (hT.out.block g hgz hgn)).frozen _))
  have hT0 : Touch (fun k => (s.sv l d).ownBlock = some k) w9 w2 := ⟨hT.out.os, hT.out.tape, hT.out.output, hT.out.size, hT.out.block⟩
  have R := H.out.slotted (w' := w2) hl16 hd16 (v' := .slice (some ⟨gg, 0, none⟩) ((s.SL l d).length + 1) cap) (es := s.SL l d ++ [e]) hr2 hT0 (fun k hk => by
    simp only [Value.ownBlock, Option.some.injEq] at hk
    subst hk
    exact hat2)
  go_end0
  exact ⟨rfl, _, R.1, R.2, fun k hk => by
    simp only [Value.ownBlock, Option.some.injEq] at hk
    subst hk
    exact hat2⟩
end Go.Proofs.YtnnoaolceeendaaGreatDoor
