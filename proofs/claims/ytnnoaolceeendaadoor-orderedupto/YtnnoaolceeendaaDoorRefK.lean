import Derived.Test.YtnnoaolceeendaaDoorRefJ
import Derived.Deep.DeepCutAuto
namespace Go.Proofs.YtnnoaolceeendaaDoor
open Go.ChangeShapes Go.WideShapes Go.ChangeAt Go.RowKit

/-- A config that is good, as far as the flow leans on it. -/
structure CfOk (C : Cf) : Prop where
  s1 : 1 ≤ C.slide
  s2 : C.slide ≤ C.size
  s3 : C.size ≤ 1000
  b0 : 0 ≤ C.bound
  b1 : C.bound ≤ 1000
  f0 : 0 ≤ C.fold
  f3 : C.fold ≤ 3

def Cf.ws (C : Cf) (t : Int) : List Int := wins t C.size C.slide

theorem drawn_below {w : World} (n : Nat) : Below w.heap.size w (w.drewN n) := ⟨rfl, rfl, rfl, Nat.le_refl _, fun _ _ => rfl⟩
theorem drew_below {w : World} : Below w.heap.size w w.drew := ⟨rfl, rfl, rfl, Nat.le_refl _, fun _ _ => rfl⟩

theorem RowIs.frozen {α : Type} {enc : α → List Value} {w : World} {B e s g n cap : Nat} {l : List α} (h : RowIs enc w B e s (.slice (some ⟨g, 0, none⟩) n cap) l) (j : Nat) : w.frozen? ⟨g, j, none⟩ = false := by
  rcases h.2 with ⟨h', _⟩ | ⟨g', cap', cur, h', _, hg, _⟩
  · simp at h'
  · simp only [Value.slice.injEq, Option.some.injEq, Addr.mk.injEq, and_true] at h'
    obtain ⟨rfl, _⟩ := h'
    exact frozen_of_row w g j cur e hg

theorem late_cnt {size now : Int} {ws : List Int} : M.isLate size now ws = true ↔ (ws.filter fun b => decide (now < b + size)).length = 0 := by
  rw [List.length_eq_zero_iff, List.filter_eq_nil_iff, M.isLate, List.all_eq_true]
  constructor
  · intro h b hb
    have := h b hb
    simp at this ⊢
    omega
  · intro h b hb
    have := h b hb
    simp at this ⊢
    omega

theorem modify_set {α : Type} (q : α → α) : ∀ {l : List α} {i : Nat} {x : α}, l[i]? = some x → l.modify i q = l.set i (q x)
  | [], _, _, h => by simp at h
  | y :: l, 0, x, h => by
    simp at h
    subst h
    rfl
  | y :: l, i + 1, x, h => by
    have h' : l[i]? = some x := by simpa using h
    show y :: l.modify i q = y :: l.set i (q x)
    rw [modify_set q h']

theorem mostOk_set {l : List M.Pt} (h : mostOk l) {i : Nat} {y : M.Pt} (h1 : -9223372036854775808 ≤ y.most) (h2 : y.most ≤ 9223372036854775807) : mostOk (l.set i y) := fun p hp => by
  rcases List.mem_or_eq_of_mem_set hp with h' | h'
  · exact h p h'
  · subst h'; exact ⟨h1, h2⟩

theorem Tryd.infoEv : (Tryd.prog.info? 67).map (fun i => (i.zero, i.size, i.bytes)) = some (some (.agg #[.int .i64 0, .string ByteArray.empty, .int .i64 0, .int .i64 0]), 4, 40) := by kernel_rfl

attribute [local go_sem ↓] Go.wp_at_zero Go.wp_at_succ

end Go.Proofs.YtnnoaolceeendaaDoor
