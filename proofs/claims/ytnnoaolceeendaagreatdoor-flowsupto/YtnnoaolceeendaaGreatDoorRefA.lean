import Derived.Test.YtnnoaolceeendaaGreatDoorRows
import Derived.WalkKit
import Derived.ProofKit
import Derived.OpenShut
import Derived.Deep.QuietTactic
import Derived.BigQuiet
import Derived.Deep.RegionWith
import Derived.Test.YtnnoaolceeendaaGreatDoorTideE
namespace Go.Proofs.YtnnoaolceeendaaGreatDoor
open Go.ChangeShapes Go.WideShapes Go.ChangeAt Go.RowKit

theorem hideP {p : Prop} (h : p) : Hid p := h

theorem w64_wrap (n : Int) : wrap64 n = M.w64 n := by unfold wrap64 M.w64; rfl

/-! ### The keys' order -/
def ltK (a b : ByteArray) : Bool := Op.bytesLess a.toList b.toList
theorem bl_irr : ∀ l : List UInt8, Op.bytesLess l l = false
  | [] => rfl
  | a :: l => by rw [Op.bytesLess, bl_irr l]; simp
theorem bl_tr : ∀ a b c : List UInt8, Op.bytesLess a b = true → Op.bytesLess b c = true → Op.bytesLess a c = true
  | _, [], _, h, _ => by simp [Op.bytesLess] at h
  | _, _ :: _, [], _, h => by simp [Op.bytesLess] at h
  | [], _ :: _, _ :: _, _, _ => rfl
  | x :: a, y :: b, z :: c, h1, h2 => by
    have ih := bl_tr a b c
    simp only [Op.bytesLess, Bool.or_eq_true, decide_eq_true_eq, Bool.and_eq_true, beq_iff_eq] at *
    rcases h1 with h1 | ⟨rfl, h1⟩
    · rcases h2 with h2 | ⟨rfl, h2⟩
      · exact .inl (UInt8.lt_trans h1 h2)
      · exact .inl h1
    · rcases h2 with h2 | ⟨rfl, h2⟩
      · exact .inl h2
      · exact .inr ⟨rfl, ih h1 h2⟩
theorem bl_tot : ∀ a b : List UInt8, a ≠ b → Op.bytesLess a b = true ∨ Op.bytesLess b a = true
  | [], [], h => absurd rfl h
  | [], _ :: _, _ => .inl rfl
  | _ :: _, [], _ => .inr rfl
  | x :: a, y :: b, h => by
    simp only [Op.bytesLess, Bool.or_eq_true, decide_eq_true_eq, Bool.and_eq_true, beq_iff_eq]
    rcases Nat.lt_trichotomy x.toNat y.toNat with h' | h' | h'
    · exact .inl (.inl h')
    · have e : x = y := UInt8.toNat_inj.1 h'
      subst e
      rcases bl_tot a b (fun e => h (by rw [e])) with g | g
      · exact .inl (.inr ⟨rfl, g⟩)
      · exact .inr (.inr ⟨rfl, g⟩)
    · exact .inr (.inl h')
theorem str_inj {a b : ByteArray} (h : a.toList = b.toList) : a = b := by
  rw [ByteArray.toList_eq, ByteArray.toList_eq] at h
  exact bytes_inj h
theorem soK : M.SO ltK := ⟨fun _ => bl_irr _, fun _ _ _ => bl_tr _ _ _, fun _ _ h => bl_tot _ _ (fun e => h (str_inj e))⟩
theorem str_beq {a b : ByteArray} : (a.toList == b.toList) = decide (a = b) := by
  by_cases h : a = b
  · subst h; simp
  · have : ¬ a.toList = b.toList := fun e => h (str_inj e)
    simp [h, this]


theorem rfold_any (kind n v : Int) (w : World) (h0 : 0 ≤ kind) (h3 : kind ≤ 3) :
    Calls Tryz.prog 65 #[.int .i64 kind, .int .i64 n, .int .i64 v] w fun e w' => e = .returned (.int .i64 (M.foldV kind n v)) ∧ w' = w := by
  rcases (show kind = 0 ∨ kind = 1 ∨ kind = 2 ∨ kind = 3 by omega) with rfl | rfl | rfl | rfl
  · go_enter Tryz.func65, Tryz.ntmps65
    go_wp2
    go_ret
    exact ⟨by simp [M.foldV, w64_wrap], rfl⟩
  · go_enter Tryz.func65, Tryz.ntmps65
    go_wp2
    go_ret
    exact ⟨by simp [M.foldV, w64_wrap], rfl⟩
  · by_cases h : v < n
    · have E : Hid (M.foldV 2 n v = v) := by simp [Hid, M.foldV, h]
      rw [E.out]
      go_enter Tryz.func65, Tryz.ntmps65
      go_wp2
      go_ret
      exact ⟨rfl, rfl⟩
    · have E : Hid (M.foldV 2 n v = n) := by simp [Hid, M.foldV, h]
      rw [E.out]
      go_enter Tryz.func65, Tryz.ntmps65
      go_wp2
      go_ret
      exact ⟨rfl, rfl⟩
  · by_cases h : n < v
    · have E : Hid (M.foldV 3 n v = v) := by simp [Hid, M.foldV, h]
      rw [E.out]
      go_enter Tryz.func65, Tryz.ntmps65
      go_wp2
      go_ret
      exact ⟨rfl, rfl⟩
    · have E : Hid (M.foldV 3 n v = n) := by simp [Hid, M.foldV, h]
      rw [E.out]
      go_enter Tryz.func65, Tryz.ntmps65
      go_wp2
      go_ret
      exact ⟨rfl, rfl⟩

theorem rfirst_any (kind v : Int) (w : World) :
    Calls Tryz.prog 66 #[.int .i64 kind, .int .i64 v] w fun e w' => e = .returned (.int .i64 (M.firstV kind v)) ∧ w' = w := by
  by_cases h : kind = 0
  · have hb : (kind == 0) = true := by simp [h]
    have E : Hid (M.firstV kind v = 1) := by simp [Hid, M.firstV, h]
    rw [E.out]
    clear h E
    go_enter Tryz.func66, Tryz.ntmps66
    go_wp2
    go_ret
    exact ⟨rfl, rfl⟩
  · have hb : (kind == 0) = false := by simp [h]
    have E : Hid (M.firstV kind v = v) := by simp [Hid, M.firstV, h]
    rw [E.out]
    clear h E
    go_enter Tryz.func66, Tryz.ntmps66
    go_wp2
    go_ret
    exact ⟨rfl, rfl⟩


/-- A pane, a value; an event; likewise (of both packages: the same fields). -/
def pnV (p : M.Pn ByteArray) : Value := .agg #[.int .i64 p.start, .int .i64 p.stop, .string p.key, .int .i64 p.n]
def pnC (p : M.Pn ByteArray) : List Value := [.int .i64 p.start, .int .i64 p.stop, .string p.key, .int .i64 p.n]
def evV (e : M.Ev ByteArray) : Value := .agg #[.int .i64 e.part, .string e.key, .int .i64 e.at_, .int .i64 e.val]
def evC (e : M.Ev ByteArray) : List Value := [.int .i64 e.part, .string e.key, .int .i64 e.at_, .int .i64 e.val]

theorem rless_any (a b : M.Pn ByteArray) (w : World) :
    Calls Tryz.prog 67 #[.agg #[.int .i64 a.start, .int .i64 a.stop, .string a.key, .int .i64 a.n], .agg #[.int .i64 b.start, .int .i64 b.stop, .string b.key, .int .i64 b.n]] w fun e w' => e = .returned (.bool (M.lessP ltK a b)) ∧ Below w.heap.size w w' := by
  by_cases h1 : a.stop = b.stop
  · have t1 : (a.stop != b.stop) = false := by simp [h1]
    by_cases h2 : a.start = b.start
    · have t2 : (a.start != b.start) = false := by simp [h2]
      have E : Hid (M.lessP ltK a b = Op.bytesLess a.key.toList b.key.toList) := by simp [Hid, M.lessP, h1, h2, ltK]
      rw [E.out]
      clear E h1 h2
      go_enter Tryz.func67, Tryz.ntmps67
      go_wp2
      go_ret
      exact ⟨rfl, ((Below.refl _ _).alloc (Nat.le_refl _) _).alloc (by simp) _⟩
    · have t2 : (a.start != b.start) = true := by simp [h2]
      have E : Hid (M.lessP ltK a b = decide (a.start < b.start)) := by simp [Hid, M.lessP, h1, h2]
      rw [E.out]
      clear E h1 h2
      go_enter Tryz.func67, Tryz.ntmps67
      go_wp2
      go_ret
      exact ⟨rfl, ((Below.refl _ _).alloc (Nat.le_refl _) _).alloc (by simp) _⟩
  · have t1 : (a.stop != b.stop) = true := by simp [h1]
    have E : Hid (M.lessP ltK a b = decide (a.stop < b.stop)) := by simp [Hid, M.lessP, h1]
    rw [E.out]
    clear E h1
    go_enter Tryz.func67, Tryz.ntmps67
    go_wp2
    go_ret
    exact ⟨rfl, ((Below.refl _ _).alloc (Nat.le_refl _) _).alloc (by simp) _⟩
end Go.Proofs.YtnnoaolceeendaaGreatDoor
