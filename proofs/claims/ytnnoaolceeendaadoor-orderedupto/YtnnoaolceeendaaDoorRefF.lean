import Derived.Test.YtnnoaolceeendaaDoorRefE
namespace Go.Proofs.YtnnoaolceeendaaDoor
open Go.ChangeShapes Go.WideShapes Go.ChangeAt Go.RowKit

/-- A config. -/
structure Cf where
  size : Int
  slide : Int
  bound : Int
  idle : Int
  parts : Int
  fold : Int

def ptC (p : M.Pt) : List Value := [.bool p.any, .int .i64 p.most, .bool p.ended, .bool p.idle, .int .i64 p.silent]
theorem ptC_len (p : M.Pt) : (ptC p).length = 5 := rfl

/-- Only blocks of S, and new ones, have turned. -/
structure Touch (S : Nat → Prop) (w w' : World) : Prop where
  os : w'.os = w.os
  tape : w'.tape = w.tape
  output : w'.output = w.output
  size : w.heap.size ≤ w'.heap.size
  block : ∀ k, k < w.heap.size → ¬ S k → w'.heap[k]? = w.heap[k]?

def plus (S : Nat → Prop) (w w' : World) : Nat → Prop := fun k => S k ∨ (w.heap.size ≤ k ∧ k < w'.heap.size)

def feet (g : Nat) (pv ov tv av : Value) : Nat → Prop := fun k => k = g ∨ pv.ownBlock = some k ∨ ov.ownBlock = some k ∨ tv.ownBlock = some k ∨ av.ownBlock = some k

theorem RowIs.agree {α : Type} {enc : α → List Value} {w w' : World} {B e s : Nat} {v : Value} {l : List α} (h : RowIs enc w B e s v l) (hg : ∀ k, v.ownBlock = some k → w'.heap[k]? = w.heap[k]?) : RowIs enc w' B e s v l := by
  refine ⟨h.1, ?_⟩
  rcases h.2 with h | ⟨g, cap, cur, rfl, hb, hh, r⟩
  · exact .inl h
  · exact .inr ⟨g, cap, cur, rfl, hb, (hg g rfl).trans hh, r⟩

theorem pt_at {w : World} {B e : Nat} {v : Value} {l : List M.Pt} (h : RowIs ptC w B e 5 v l) {i : Nat} {x : M.Pt} (hx : l[i]? = some x) :
    ∃ g cap, v = .slice (some ⟨g, 0, none⟩) l.length cap ∧ B ≤ g ∧ g < w.heap.size ∧ w.cell? ⟨g, i * 5, none⟩ = some (.bool x.any) ∧ w.cell? ⟨g, i * 5 + 1, none⟩ = some (.int .i64 x.most) ∧ w.cell? ⟨g, i * 5 + 2, none⟩ = some (.bool x.ended) ∧ w.cell? ⟨g, i * 5 + 3, none⟩ = some (.bool x.idle) ∧ w.cell? ⟨g, i * 5 + 4, none⟩ = some (.int .i64 x.silent) := by
  obtain ⟨g, cap, ev, h1, h2, h3, _⟩ := h.at ptC_len hx
  exact ⟨g, cap, ev, h1, h2, h3 0 (by omega), h3 1 (by omega), h3 2 (by omega), h3 3 (by omega), h3 4 (by omega)⟩

end Go.Proofs.YtnnoaolceeendaaDoor
