import Derived.Test.YtnnoaolceeendaaDoorRefI
import Derived.Test.YtnnoaolceeendaaDoorWinR
import Derived.Deep.DrawnRows
import Derived.RegionTactic
import Derived.BigRegion
namespace Go.Proofs.YtnnoaolceeendaaDoor
open Go.ChangeShapes Go.WideShapes Go.ChangeAt Go.RowKit

/-! ### What 'take' holds -/
def intC (n : Int) : List Value := [.int .i64 n]
theorem intC_len (n : Int) : (intC n).length = 1 := rfl
theorem intC_map : ∀ l : List Int, l.flatMap intC = l.map (Value.int .i64)
  | [] => rfl
  | x :: l => by rw [List.flatMap_cons, intC_map l]; rfl
theorem int_row {w : World} {B e : Nat} {v : Value} {l : List Int} (h : w.ownsRow B e 1 v l.length (l.map (Value.int .i64))) : RowIs intC w B e 1 v l := by unfold RowIs; rw [intC_map]; exact h
theorem int_at {w : World} {B e : Nat} {v : Value} {l : List Int} (h : RowIs intC w B e 1 v l) {i : Nat} {x : Int} (hx : l[i]? = some x) :
    ∃ g cap, v = .slice (some ⟨g, 0, none⟩) l.length cap ∧ B ≤ g ∧ g < w.heap.size ∧ w.cell? ⟨g, i, none⟩ = some (.int .i64 x) := by
  obtain ⟨g, cap, ev, h1, h2, h3, _⟩ := h.at intC_len hx
  exact ⟨g, cap, ev, h1, h2, by have := h3 0 (by omega); rw [Nat.mul_one, Nat.add_zero] at this; exact this⟩

theorem countAll_snoc (size fold now : Int) (key : ByteArray) (v : Int) {ws : List Int} {k : Nat} {b : Int} (h : ws[k]? = some b) (l : List (M.Pn ByteArray)) :
    M.countAll size fold now key v (ws.take (k + 1)) l = (if now < b + size then M.countP size fold b key v (M.countAll size fold now key v (ws.take k) l) else M.countAll size fold now key v (ws.take k) l) := by
  rw [take_snoc' h, M.countAll, List.foldl_append]
  rfl

theorem cnt_snoc {ws : List Int} {k : Nat} {b : Int} (h : ws[k]? = some b) (q : Int → Bool) : ((ws.take (k + 1)).filter q).length = ((ws.take k).filter q).length + (if q b = true then 1 else 0) := by
  rw [take_snoc' h, List.filter_append, List.length_append]
  congr 1
  by_cases hq : q b = true <;> simp [hq]

theorem countP_len {size fold b v : Int} {key : ByteArray} : ∀ (l : List (M.Pn ByteArray)), (M.countP size fold b key v l).length ≤ l.length + 1
  | [] => by simp [M.countP]
  | p :: r => by
    unfold M.countP
    split
    · simp
    · have := countP_len (size := size) (fold := fold) (b := b) (v := v) (key := key) r
      simp; omega
theorem countAll_len {size fold now v : Int} {key : ByteArray} : ∀ (ws : List Int) (l : List (M.Pn ByteArray)), (M.countAll size fold now key v ws l).length ≤ l.length + ws.length
  | [], l => by simp [M.countAll]
  | b :: ws, l => by
    show (M.countAll size fold now key v ws (if now < b + size then M.countP size fold b key v l else l)).length ≤ _
    have h2 := countP_len (size := size) (fold := fold) (b := b) (v := v) (key := key) l
    by_cases hb : now < b + size
    · rw [if_pos hb]
      have h1 := countAll_len (size := size) (fold := fold) (now := now) (v := v) (key := key) ws (M.countP size fold b key v l)
      simp; omega
    · rw [if_neg hb]
      have h1 := countAll_len (size := size) (fold := fold) (now := now) (v := v) (key := key) ws l
      simp; omega
end Go.Proofs.YtnnoaolceeendaaDoor
