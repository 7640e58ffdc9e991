import Derived.Test.YtnnoaolceeendaaDoorRefF
namespace Go.Proofs.YtnnoaolceeendaaDoor
open Go.ChangeShapes Go.WideShapes Go.ChangeAt Go.RowKit

/-! ### The mark, part by part -/
def lstep (bound m : Int) (p : M.Pt) : Int := if p.ended = false ∧ p.idle = false ∧ M.allows bound p < m then M.allows bound p else m

theorem lstep_fold (bound : Int) : ∀ (ps : List M.Pt) (m : Int), m ≤ M.maxT → ps.foldl (lstep bound) m = (if M.leastOf bound ps < m then M.leastOf bound ps else m)
  | [], m, h => by
    rw [M.leastOf, if_neg (by omega)]
    rfl
  | p :: ps, m, h => by
    rw [List.foldl_cons, lstep_fold bound ps (lstep bound m p) (by unfold lstep; split <;> omega), M.leastOf]
    unfold lstep
    generalize M.leastOf bound ps = L
    generalize M.allows bound p = A
    by_cases c : p.ended = false ∧ p.idle = false
    · simp only [c.1, c.2, true_and]
      (repeat' split) <;> omega
    · have n1 : ¬ (p.ended = false ∧ p.idle = false ∧ A < m) := fun h => c ⟨h.1, h.2.1⟩
      have n2 : ¬ (p.ended = false ∧ p.idle = false ∧ A < L) := fun h => c ⟨h.1, h.2.1⟩
      rw [if_neg n1, if_neg n2]

theorem least_fold (bound : Int) (ps : List M.Pt) : ps.foldl (lstep bound) M.maxT = M.leastOf bound ps := by
  rw [lstep_fold bound ps _ (Int.le_refl _)]
  have := M.leastOf_le bound ps
  split <;> omega

theorem take_snoc' {α : Type} {l : List α} {k : Nat} {x : α} (h : l[k]? = some x) : l.take (k + 1) = l.take k ++ [x] := by
  have hk := List.getElem?_eq_some_iff.1 h
  rw [List.take_succ_eq_append_getElem hk.1, hk.2]

def mostOk (ps : List M.Pt) : Prop := ∀ p ∈ ps, -9223372036854775808 ≤ p.most ∧ p.most ≤ 9223372036854775807

end Go.Proofs.YtnnoaolceeendaaDoor
