import Derived.Test.YtnnoaolceeendaaGreatDoorRefC
import Derived.Deep.RegionHeld3
import Derived.Deep.AppendLies
namespace Go.Proofs.YtnnoaolceeendaaGreatDoor
open Go.ChangeShapes Go.WideShapes Go.ChangeAt Go.RowKit

/-- w' is w but for v's own row and new blocks; v' lies in that row or in a new block. -/
structure Grows (w w' : World) (v v' : Value) : Prop where
  grown : w.grownBy w' v.ownBlock
  blk : ∀ k, v'.ownBlock = some k → v.ownBlock = some k ∨ w.heap.size ≤ k

theorem flat_set {α : Type} {enc : α → List Value} {s : Nat} (hs : ∀ x, (enc x).length = s) : ∀ (l : List α) (i j : Nat) (x y : α) (u : Value), l[i]? = some x → j < s → enc y = (enc x).set j u → (l.flatMap enc).set (i * s + j) u = (l.set i y).flatMap enc
  | [], _, _, _, _, _, h, _, _ => by simp at h
  | z :: l, 0, j, x, y, u, h, hj, he => by
    simp at h
    subst h
    rw [List.flatMap_cons, Nat.zero_mul, Nat.zero_add, List.set_append_left _ _ (by rw [hs]; exact hj), List.set_cons_zero, List.flatMap_cons, he]
  | z :: l, i + 1, j, x, y, u, h, hj, he => by
    rw [List.flatMap_cons, List.set_append_right _ _ (by rw [hs, Nat.add_mul]; omega), hs, show (i + 1) * s + j - s = i * s + j by rw [Nat.add_mul]; omega, flat_set hs l i j x y u (by simpa using h) hj he, List.set_cons_succ, List.flatMap_cons]

/-- A store into a row. -/
theorem RowIs.set {α : Type} {enc : α → List Value} {w : World} {B e s g cap : Nat} {l : List α} (h : RowIs enc w B e s (.slice (some ⟨g, 0, none⟩) l.length cap) l) (hs : ∀ x, (enc x).length = s) {i j : Nat} {x y : α} {u : Value} (hx : l[i]? = some x) (hj : j < s) (he : enc y = (enc x).set j u) :
    RowIs enc (w.setCell ⟨g, i * s + j, none⟩ u) B e s (.slice (some ⟨g, 0, none⟩) l.length cap) (l.set i y) ∧ Grows w (w.setCell ⟨g, i * s + j, none⟩ u) (.slice (some ⟨g, 0, none⟩) l.length cap) (.slice (some ⟨g, 0, none⟩) l.length cap) := by
  have := World.ownsRow.stored h (i * s + j) u
  refine ⟨?_, ⟨this.2, fun k hk => .inl hk⟩⟩
  unfold RowIs
  rw [← flat_set hs l i j x y u hx hj he, List.length_set]
  exact this.1

theorem Grows.trans_left {w0 w w' : World} {v v' : Value} (h : Grows w w' v v') (hb : Below w0.heap.size w0 w) : Grows w0 w' v v' :=
  ⟨⟨h.grown.os.trans hb.os, h.grown.tape.trans hb.tape, h.grown.output.trans hb.output, Nat.le_trans hb.size h.grown.size, fun k hk hne => (h.grown.block k (Nat.lt_of_lt_of_le hk hb.size) hne).trans (hb.block k hk)⟩,
    fun k hk => (h.blk k hk).imp id (fun h' => Nat.le_trans hb.size h')⟩

theorem Grows.drawn {w w' w'' : World} {v v' : Value} (h : Grows w w' v v') (e : w''.heap = w'.heap := by rfl) (o : w''.os = w'.os := by rfl) (t : w''.tape = w'.tape := by rfl) (p : w''.output = w'.output := by rfl) : Grows w w'' v v' :=
  ⟨⟨o.trans h.grown.os, t.trans h.grown.tape, p.trans h.grown.output, by rw [e]; exact h.grown.size, fun k hk hne => by rw [e]; exact h.grown.block k hk hne⟩, h.blk⟩

section
variable {K : Type} [DecidableEq K]
theorem countP_skip {size fold b v : Int} {key : K} : ∀ {l : List (M.Pn K)}, (∀ x ∈ l, ¬ (x.start = b ∧ x.key = key)) → M.countP size fold b key v l = l ++ [⟨b, b + size, key, M.firstV fold v⟩]
  | [], _ => rfl
  | p :: r, h => by
    rw [M.countP, if_neg (h p (by simp)), countP_skip (fun x hx => h x (by simp [hx]))]
    rfl
theorem countP_hit {size fold b v : Int} {key : K} : ∀ {l : List (M.Pn K)} {k : Nat} {x : M.Pn K}, l[k]? = some x → (∀ j y, j < k → l[j]? = some y → ¬ (y.start = b ∧ y.key = key)) → x.start = b ∧ x.key = key → M.countP size fold b key v l = l.set k { x with n := M.foldV fold x.n v }
  | [], k, x, h, _, _ => by simp at h
  | p :: r, 0, x, h, _, he => by
    simp at h
    subst h
    rw [M.countP, if_pos he]
    rfl
  | p :: r, k + 1, x, h, hn, he => by
    rw [M.countP, if_neg (hn 0 p (by omega) rfl), countP_hit (k := k) (by simpa using h) (fun j y hj hy => hn (j + 1) y (by omega) (by simpa using hy)) he]
    rfl
end
end Go.Proofs.YtnnoaolceeendaaGreatDoor
