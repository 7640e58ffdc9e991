import Derived.Test.YtgepipnbfgdjkaaGreatDoorFlwP
namespace Go.Proofs.YtgepipnbfgdjkaaGreatDoor
open Go.ChangeShapes Go.WideShapes Go.ChangeAt Go.RowKit

theorem tal_keys {w : World} {b : Nat} {G : ByteArray → Option Int} (h : TalAt w b G) : ∃ ks, KeysAre G ks := by
  obtain ⟨D, h1, h2⟩ := h
  exact ⟨_, keys_are h1 h2 (List.Perm.refl _)⟩

theorem FlowIs.turnB {w : World} {g : Nat} {s : FS} {f : M.Fl ByteArray} (h : FlowIs w g s) (hr : f.opn.length + f.told.length ≤ 50000000) : TurnB s f :=
  ⟨hr, fun e he => by
    obtain ⟨b, hb⟩ := Option.isSome_iff_exists.1 he
    exact tal_keys (h.tal e b hb)⟩

/-- What is asked of a config on the way. -/
structure CfB (C : Cf) : Prop where
  b0 : 0 ≤ C.bound
  b1 : C.bound ≤ 1000
  d1 : C.idle ≤ 100

theorem Touch.cellAt {S : Nat → Prop} {w w' : World} (h : Touch S w w') {b : Nat} (hb : b < w.heap.size) (hn : ¬ S b) : w'.heap[b]? = w.heap[b]? := h.block b hb hn

theorem least_T (bound : Int) (b0 : 0 ≤ bound) : ∀ ps : List M.Pt, (∀ p ∈ ps, Wh.IsT p.most) → Wh.IsT (M.leastOf bound ps)
  | [], _ => by show Wh.IsT M.maxT; unfold Wh.IsT M.maxT; omega
  | p :: ps, h => by
    have ih := least_T bound b0 ps (fun q hq => h q (by simp [hq]))
    have hp := h p (by simp)
    rw [leastOf_cons]
    have ha : Wh.IsT (M.allows bound p) := by
      unfold M.allows M.minT
      unfold Wh.IsT at *
      split
      · omega
      · rename_i hc
        have : ¬ p.most < -9223372036854775808 + bound := fun hx => hc (.inr hx)
        omega
    unfold Wh.IsT at *
    split <;> omega

set_option maxRecDepth 100000 in
set_option maxHeartbeats 4000000 in
theorem moveMark_any (g : Nat) (s : FS) (f : M.Fl ByteArray) (w : World) (h : FlowIs w g s) (hR : FRel s f) (hm : ∀ q ∈ s.ps, Wh.IsT q.most) (hp : ∀ p ∈ f.parts, Wh.IsT p.most) (hn : s.ps.length ≤ 8) (hC : CfB s.C) (hr : f.opn.length + f.told.length ≤ 50000000) :
    Calls Tryz.prog 36 #[.pointer (some ⟨g, 0, none⟩)] w fun r w' => r = .returned (.tuple #[]) ∧ ∃ s', Way w w' g s s' ∧ FRel s' (M.moveF ltK s.C.bound f) ∧ s'.C = s.C := by
  have hgz := h.ob.lt
  have hA : Below w.heap.size w (w.alloc (.cells #[.pointer (some ⟨g, 0, none⟩)] 25)) := (Below.refl _ _).alloc (Nat.le_refl _) _
  have hbx : (w.alloc (.cells #[.pointer (some ⟨g, 0, none⟩)] 25)).heap[w.heap.size]? = some (.cells #[.pointer (some ⟨g, 0, none⟩)] 25 (0, 0)) := heap_alloc_new w _
  have hF1 := h.below hA
  obtain ⟨w1, hw1⟩ : ∃ x, x = w.alloc (.cells #[.pointer (some ⟨g, 0, none⟩)] 25) := ⟨_, rfl⟩
  have hz1 : w1.heap.size = w.heap.size + 1 := by rw [hw1]; simp
  have HW1 := hideP hw1
  rw [← hw1] at hA hbx hF1
  have cb : w1.cell? ⟨w.heap.size, 0, none⟩ = some (.pointer (some ⟨g, 0, none⟩)) := cell_of_row w1 _ 0 _ _ _ hbx
  have AL : Hid (∀ w2 : World, w2.heap = w1.heap → Calls Tryz.prog 49 #[.pointer (some ⟨g, 0, none⟩)] w2 fun r w' => r = .returned (.int .i64 (allowI s.C.bound s.m f.parts)) ∧ Below w2.heap.size w2 w') := fun w2 e2 => allowed_any g s f w2 (hF1.agree fun k _ => by rw [e2]) hR hm hn hC.b0 hC.b1 hC.d1
  have hal : Wh.IsT (allowI s.C.bound s.m f.parts) := by
    unfold allowI
    split
    · exact least_T _ hC.b0 _ hp
    · exact hR.mT
  have TU : Hid (∀ w2 : World, FlowIs w2 g s → w2.heap[w.heap.size]? = some (.cells #[.pointer (some ⟨g, 0, none⟩)] 25 (0, 0)) → Calls Tryz.prog 48 #[.pointer (some ⟨g, 7, none⟩), .int .i64 (allowI s.C.bound s.m f.parts), .func (.func 50) #[] #[.pointer (some ⟨w.heap.size, 0, none⟩)]] w2 fun r w' => r = .returned (.tuple #[]) ∧ ∃ s', Way w2 w' g s s' ∧ FRel s' (M.moveF ltK s.C.bound f) ∧ s'.C = s.C) := fun w2 h2 hb2 => by
    have := turn_any g w.heap.size s f (allowI s.C.bound s.m f.parts) w2 h2 hR (h2.turnB hr) hb2 hal
    rw [onward_allow (by rw [hR.now]; exact hR.inv.hi)] at this
    rw [M.moveF, ← hR.now]
    exact this
  have HF1 := hideP hF1
  have HA := hideP hA
  have HBX := hideP hbx
  obtain ⟨al, hal2⟩ : ∃ x, x = allowI s.C.bound s.m f.parts := ⟨_, rfl⟩
  rw [← hal2] at AL TU
  clear h hR hm hp hA hbx hF1 hal hal2 hw1
  go_enter Tryz.func36, Tryz.ntmps36
  go_wp2_with fail
  rw [← HW1.out]
  go_region_with (first
    | (go_at_call 49; refine (AL.out _ ?_).mono ?_; rfl; rintro r w2 ⟨rfl, hb2⟩; have HB2 := hideP hb2; have cb2 := keepAt hb2 (by simp; omega) cb; clear hb2)
    | (go_at_call 48; refine (TU.out _ ?_ ?_).mono ?_; exact HF1.out.below ⟨HB2.out.os, HB2.out.tape, HB2.out.output, HB2.out.size, HB2.out.block⟩; exact (HB2.out.block _ (by simp; omega)).trans HBX.out; rintro r w3 ⟨rfl, s3, hw3, hr3, hc3⟩))
  all_goals
    go_wp2_with fail
    go_end0
    have B2 : Below w1.heap.size w1 w2 := ⟨HB2.out.os, HB2.out.tape, HB2.out.output, HB2.out.size, HB2.out.block⟩
    exact ⟨rfl, s3, (Way.mk (HF1.out.below B2) (Touch.of_below (HA.out.trans (B2.mono (by omega)))) (fun _ hk => .inl hk)).trans hw3, hr3, hc3⟩
end Go.Proofs.YtgepipnbfgdjkaaGreatDoor
