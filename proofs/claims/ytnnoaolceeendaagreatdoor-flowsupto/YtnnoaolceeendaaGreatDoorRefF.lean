import Derived.Test.YtnnoaolceeendaaGreatDoorRefE
namespace Go.Proofs.YtnnoaolceeendaaGreatDoor
open Go.ChangeShapes Go.WideShapes Go.ChangeAt Go.RowKit

/-- A config. -/
structure Cf where
  size : Int
  slide : Int
  bound : Int
  idle : Int
  parts : Int
  fold : Int

def ptC (p : M.Pt) : List Value := [.bool p.any, .int .i64 p.most, .bool p.ended, .bool p.idle, .int .i64 p.silent]
theorem ptC_len (p : M.Pt) : (ptC p).length = 5 := rfl

/-- Only blocks of S, and new ones, have turned. -/
structure Touch (S : Nat → Prop) (w w' : World) : Prop where
  os : w'.os = w.os
  tape : w'.tape = w.tape
  output : w'.output = w.output
  size : w.heap.size ≤ w'.heap.size
  block : ∀ k, k < w.heap.size → ¬ S k → w'.heap[k]? = w.heap[k]?

def plus (S : Nat → Prop) (w w' : World) : Nat → Prop := fun k => S k ∨ (w.heap.size ≤ k ∧ k < w'.heap.size)

/-- The document's flow lies at block g. -/
structure RefAt (w : World) (g : Nat) (C : Cf) (f : M.Fl ByteArray) (pv ov tv av : Value) : Prop where
  obj : w.heap[g]? = some (.cells #[.int .i64 C.size, .int .i64 C.slide, .int .i64 C.bound, .int .i64 C.idle, .int .i64 C.parts, .int .i64 C.fold, pv, .int .i64 f.now, ov, tv, av] 86 (0, 0))
  parts : RowIs ptC w 0 117 5 pv f.parts
  opn : RowIs pnC w 0 101 4 ov f.opn
  told : RowIs pnC w 0 101 4 tv f.told
  after : RowIs evC w 0 90 4 av f.after
  far : ∀ k, pv.ownBlock = some k ∨ ov.ownBlock = some k ∨ tv.ownBlock = some k ∨ av.ownBlock = some k → k ≠ g
  pof : ∀ k, pv.ownBlock = some k → ov.ownBlock ≠ some k ∧ tv.ownBlock ≠ some k ∧ av.ownBlock ≠ some k
  oft : ∀ k, ov.ownBlock = some k → tv.ownBlock ≠ some k ∧ av.ownBlock ≠ some k
  tfa : ∀ k, tv.ownBlock = some k → av.ownBlock ≠ some k

def feet (g : Nat) (pv ov tv av : Value) : Nat → Prop := fun k => k = g ∨ pv.ownBlock = some k ∨ ov.ownBlock = some k ∨ tv.ownBlock = some k ∨ av.ownBlock = some k

theorem RowIs.agree {α : Type} {enc : α → List Value} {w w' : World} {B e s : Nat} {v : Value} {l : List α} (h : RowIs enc w B e s v l) (hg : ∀ k, v.ownBlock = some k → w'.heap[k]? = w.heap[k]?) : RowIs enc w' B e s v l := by
  refine ⟨h.1, ?_⟩
  rcases h.2 with h | ⟨g, cap, cur, rfl, hb, hh, r⟩
  · exact .inl h
  · exact .inr ⟨g, cap, cur, rfl, hb, (hg g rfl).trans hh, r⟩

theorem RefAt.agree {w w' : World} {g : Nat} {C : Cf} {f : M.Fl ByteArray} {pv ov tv av : Value} (h : RefAt w g C f pv ov tv av) (hg : ∀ k, feet g pv ov tv av k → w'.heap[k]? = w.heap[k]?) : RefAt w' g C f pv ov tv av :=
  ⟨(hg g (.inl rfl)).trans h.obj, h.parts.agree (fun k hk => hg k (.inr (.inl hk))), h.opn.agree (fun k hk => hg k (.inr (.inr (.inl hk)))), h.told.agree (fun k hk => hg k (.inr (.inr (.inr (.inl hk))))), h.after.agree (fun k hk => hg k (.inr (.inr (.inr (.inr hk))))),
    h.far, h.pof, h.oft, h.tfa⟩

theorem RefAt.feet_lt {w : World} {g : Nat} {C : Cf} {f : M.Fl ByteArray} {pv ov tv av : Value} (h : RefAt w g C f pv ov tv av) {k : Nat} (hk : feet g pv ov tv av k) : k < w.heap.size := by
  rcases hk with rfl | hk | hk | hk | hk
  · exact lt_of_block h.obj
  · exact (h.parts.lt k hk).2
  · exact (h.opn.lt k hk).2
  · exact (h.told.lt k hk).2
  · exact (h.after.lt k hk).2

theorem RefAt.below {w w' : World} {g : Nat} {C : Cf} {f : M.Fl ByteArray} {pv ov tv av : Value} (h : RefAt w g C f pv ov tv av) (hb : Below w.heap.size w w') : RefAt w' g C f pv ov tv av :=
  h.agree fun k hk => hb.block k (h.feet_lt hk)

/-- The flow's own cells. -/
theorem RefAt.cells {w : World} {g : Nat} {C : Cf} {f : M.Fl ByteArray} {pv ov tv av : Value} (h : RefAt w g C f pv ov tv av) :
    w.cell? ⟨g, 0, none⟩ = some (.int .i64 C.size) ∧ w.cell? ⟨g, 1, none⟩ = some (.int .i64 C.slide) ∧ w.cell? ⟨g, 2, none⟩ = some (.int .i64 C.bound) ∧ w.cell? ⟨g, 3, none⟩ = some (.int .i64 C.idle) ∧ w.cell? ⟨g, 4, none⟩ = some (.int .i64 C.parts) ∧ w.cell? ⟨g, 5, none⟩ = some (.int .i64 C.fold) ∧
    w.cell? ⟨g, 6, none⟩ = some pv ∧ w.cell? ⟨g, 7, none⟩ = some (.int .i64 f.now) ∧ w.cell? ⟨g, 8, none⟩ = some ov ∧ w.cell? ⟨g, 9, none⟩ = some tv ∧ w.cell? ⟨g, 10, none⟩ = some av :=
  ⟨cell_of_row w g 0 _ _ _ h.obj, cell_of_row w g 1 _ _ _ h.obj, cell_of_row w g 2 _ _ _ h.obj, cell_of_row w g 3 _ _ _ h.obj, cell_of_row w g 4 _ _ _ h.obj, cell_of_row w g 5 _ _ _ h.obj, cell_of_row w g 6 _ _ _ h.obj, cell_of_row w g 7 _ _ _ h.obj, cell_of_row w g 8 _ _ _ h.obj, cell_of_row w g 9 _ _ _ h.obj, cell_of_row w g 10 _ _ _ h.obj⟩

theorem pt_at {w : World} {B e : Nat} {v : Value} {l : List M.Pt} (h : RowIs ptC w B e 5 v l) {i : Nat} {x : M.Pt} (hx : l[i]? = some x) :
    ∃ g cap, v = .slice (some ⟨g, 0, none⟩) l.length cap ∧ B ≤ g ∧ g < w.heap.size ∧ w.cell? ⟨g, i * 5, none⟩ = some (.bool x.any) ∧ w.cell? ⟨g, i * 5 + 1, none⟩ = some (.int .i64 x.most) ∧ w.cell? ⟨g, i * 5 + 2, none⟩ = some (.bool x.ended) ∧ w.cell? ⟨g, i * 5 + 3, none⟩ = some (.bool x.idle) ∧ w.cell? ⟨g, i * 5 + 4, none⟩ = some (.int .i64 x.silent) := by
  obtain ⟨g, cap, ev, h1, h2, h3, _⟩ := h.at ptC_len hx
  exact ⟨g, cap, ev, h1, h2, h3 0 (by omega), h3 1 (by omega), h3 2 (by omega), h3 3 (by omega), h3 4 (by omega)⟩

set_option maxRecDepth 100000 in
set_option maxHeartbeats 2000000 in
theorem rallows_any (g : Nat) (bound : Int) (p : M.Pt) (w : World) (hb : w.cell? ⟨g, 2, none⟩ = some (.int .i64 bound)) (b0 : 0 ≤ bound) (b1 : bound ≤ 1000) (m0 : -9223372036854775808 ≤ p.most) (m1 : p.most ≤ 9223372036854775807) :
    Calls Tryz.prog 112 #[.pointer (some ⟨g, 0, none⟩), .agg #[.bool p.any, .int .i64 p.most, .bool p.ended, .bool p.idle, .int .i64 p.silent]] w fun r w' => r = .returned (.int .i64 (M.allows bound p)) ∧ Below w.heap.size w w' := by
  have hlt := World.block_lt_of_cell? w _ hb
  simp only at hlt
  cases ha : p.any
  · have E : Hid (M.allows bound p = -9223372036854775808) := by simp [Hid, M.allows, ha, M.minT]
    rw [E.out]
    clear E
    go_enter Tryz.func112, Tryz.ntmps112
    go_wp2_with fail
    go_quiet (fail)
    go_wp2
    go_ret
    exact ⟨rfl, ((Below.refl _ _).alloc (Nat.le_refl _) _).trans ⟨rfl, rfl, rfl, Nat.le_refl _, fun _ _ => rfl⟩⟩
  · by_cases hm : p.most < -9223372036854775808 + bound
    · have E : Hid (M.allows bound p = -9223372036854775808) := by simp only [Hid, M.allows, ha, M.minT]; rw [if_pos (.inr hm)]
      rw [E.out]
      clear E
      go_enter Tryz.func112, Tryz.ntmps112
      go_wp2_with fail
      go_quiet (fail)
      go_wp2
      go_ret
      exact ⟨rfl, ((Below.refl _ _).alloc (Nat.le_refl _) _).trans ⟨rfl, rfl, rfl, Nat.le_refl _, fun _ _ => rfl⟩⟩
    · have E : Hid (M.allows bound p = p.most - bound) := by simp only [Hid, M.allows, ha, M.minT]; rw [if_neg (by intro h; rcases h with h | h; exact absurd h (by simp); exact hm h)]
      rw [E.out]
      clear E
      go_enter Tryz.func112, Tryz.ntmps112
      go_wp2_with fail
      go_quiet (fail)
      go_wp2_with fail
      go_quiet (fail)
      go_wp2
      go_ret
      exact ⟨rfl, ((Below.refl _ _).alloc (Nat.le_refl _) _).trans ⟨rfl, rfl, rfl, Nat.le_refl _, fun _ _ => rfl⟩⟩
end Go.Proofs.YtnnoaolceeendaaGreatDoor
