import Derived.Test.YtnnoaolceeendaaDoorRows
import Derived.WalkKit
import Derived.ProofKit
import Derived.OpenShut
import Derived.Deep.QuietTactic
import Derived.BigQuiet
import Derived.Deep.RegionWith
import Derived.Test.YtnnoaolceeendaaDoorTideE
namespace Go.Proofs.YtnnoaolceeendaaDoor
open Go.ChangeShapes Go.WideShapes Go.ChangeAt Go.RowKit

theorem hideP {p : Prop} (h : p) : Hid p := h

theorem w64_wrap (n : Int) : wrap64 n = M.w64 n := by unfold wrap64 M.w64; rfl

/-! ### The keys' order -/
def ltK (a b : ByteArray) : Bool := Op.bytesLess a.toList b.toList
theorem bl_irr : ∀ l : List UInt8, Op.bytesLess l l = false
  | [] => rfl
  | a :: l => by rw [Op.bytesLess, bl_irr l]; simp
theorem bl_tr : ∀ a b c : List UInt8, Op.bytesLess a b = true → Op.bytesLess b c = true → Op.bytesLess a c = true
  | _, [], _, h, _ => by simp [Op.bytesLess] at h
  | _, _ :: _, [], _, h => by simp [Op.bytesLess] at h
  | [], _ :: _, _ :: _, _, _ => rfl
  | x :: a, y :: b, z :: c, h1, h2 => by
    have ih := bl_tr a b c
    simp only [Op.bytesLess, Bool.or_eq_true, decide_eq_true_eq, Bool.and_eq_true, beq_iff_eq] at *
    rcases h1 with h1 | ⟨rfl, h1⟩
    · rcases h2 with h2 | ⟨rfl, h2⟩
      · exact .inl (UInt8.lt_trans h1 h2)
      · exact .inl h1
    · rcases h2 with h2 | ⟨rfl, h2⟩
      · exact .inl h2
      · exact .inr ⟨rfl, ih h1 h2⟩
theorem bl_tot : ∀ a b : List UInt8, a ≠ b → Op.bytesLess a b = true ∨ Op.bytesLess b a = true
  | [], [], h => absurd rfl h
  | [], _ :: _, _ => .inl rfl
  | _ :: _, [], _ => .inr rfl
  | x :: a, y :: b, h => by
    simp only [Op.bytesLess, Bool.or_eq_true, decide_eq_true_eq, Bool.and_eq_true, beq_iff_eq]
    rcases Nat.lt_trichotomy x.toNat y.toNat with h' | h' | h'
    · exact .inl (.inl h')
    · have e : x = y := UInt8.toNat_inj.1 h'
      subst e
      rcases bl_tot a b (fun e => h (by rw [e])) with g | g
      · exact .inl (.inr ⟨rfl, g⟩)
      · exact .inr (.inr ⟨rfl, g⟩)
    · exact .inr (.inl h')
theorem str_inj {a b : ByteArray} (h : a.toList = b.toList) : a = b := by
  rw [ByteArray.toList_eq, ByteArray.toList_eq] at h
  exact bytes_inj h
theorem soK : M.SO ltK := ⟨fun _ => bl_irr _, fun _ _ _ => bl_tr _ _ _, fun _ _ h => bl_tot _ _ (fun e => h (str_inj e))⟩
theorem str_beq {a b : ByteArray} : (a.toList == b.toList) = decide (a = b) := by
  by_cases h : a = b
  · subst h; simp
  · have : ¬ a.toList = b.toList := fun e => h (str_inj e)
    simp [h, this]


/-- A pane, a value; an event; likewise (of both packages: the same fields). -/
def pnV (p : M.Pn ByteArray) : Value := .agg #[.int .i64 p.start, .int .i64 p.stop, .string p.key, .int .i64 p.n]
def pnC (p : M.Pn ByteArray) : List Value := [.int .i64 p.start, .int .i64 p.stop, .string p.key, .int .i64 p.n]
def evV (e : M.Ev ByteArray) : Value := .agg #[.int .i64 e.part, .string e.key, .int .i64 e.at_, .int .i64 e.val]
def evC (e : M.Ev ByteArray) : List Value := [.int .i64 e.part, .string e.key, .int .i64 e.at_, .int .i64 e.val]

end Go.Proofs.YtnnoaolceeendaaDoor
