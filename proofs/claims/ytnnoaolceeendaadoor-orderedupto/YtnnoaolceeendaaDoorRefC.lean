import Derived.Test.YtnnoaolceeendaaDoorRefB
namespace Go.Proofs.YtnnoaolceeendaaDoor
open Go.ChangeShapes Go.WideShapes Go.ChangeAt Go.RowKit

/-- A pane of a row, its cells written out. -/
theorem pn_at {w : World} {B e : Nat} {v : Value} {l : List (M.Pn ByteArray)} (h : RowIs pnC w B e 4 v l) {i : Nat} {x : M.Pn ByteArray} (hx : l[i]? = some x) :
    ∃ g cap, v = .slice (some ⟨g, 0, none⟩) l.length cap ∧ B ≤ g ∧ g < w.heap.size ∧ w.cell? ⟨g, i * 4, none⟩ = some (.int .i64 x.start) ∧ w.cell? ⟨g, i * 4 + 1, none⟩ = some (.int .i64 x.stop) ∧ w.cell? ⟨g, i * 4 + 2, none⟩ = some (.string x.key) ∧ w.cell? ⟨g, i * 4 + 3, none⟩ = some (.int .i64 x.n) := by
  obtain ⟨g, cap, ev, h1, h2, h3, _⟩ := h.at pnC_len hx
  exact ⟨g, cap, ev, h1, h2, h3 0 (by omega), h3 1 (by omega), h3 2 (by omega), h3 3 (by omega)⟩

theorem keep4 {W w1 : World} {B b : Nat} (hb : Below B W w1) (hlt : b < B) {v0 v1 v2 v3 : Value} (k0 : W.cell? ⟨b, 0, none⟩ = some v0) (k1 : W.cell? ⟨b, 1, none⟩ = some v1) (k2 : W.cell? ⟨b, 2, none⟩ = some v2) (k3 : W.cell? ⟨b, 3, none⟩ = some v3) :
    w1.cell? ⟨b, 0, none⟩ = some v0 ∧ w1.cell? ⟨b, 1, none⟩ = some v1 ∧ w1.cell? ⟨b, 2, none⟩ = some v2 ∧ w1.cell? ⟨b, 3, none⟩ = some v3 :=
  ⟨(hb.cell (p := ⟨b, 0, none⟩) hlt).trans k0, (hb.cell (p := ⟨b, 1, none⟩) hlt).trans k1, (hb.cell (p := ⟨b, 2, none⟩) hlt).trans k2, (hb.cell (p := ⟨b, 3, none⟩) hlt).trans k3⟩

theorem below_box {w wr : World} {o : Obj} (h : Below (w.heap.size + 1) (w.alloc o) wr) : Below w.heap.size w wr :=
  ((Below.refl _ _).alloc (Nat.le_refl _) _).trans (h.mono (by omega))

end Go.Proofs.YtnnoaolceeendaaDoor
