import Derived.Test.YtnnoaolceeendaaGreatDoorMpA
import Derived.Test.YtnnoaolceeendaaGreatDoorWhC
namespace Go.Proofs.YtnnoaolceeendaaGreatDoor
open Go.ChangeShapes Go.WideShapes Go.ChangeAt Go.RowKit

/-! ### The program's flow in memory -/
/-- What the program keeps of a part. -/
structure IP where
  ticks : Int
  most : Int
  ended : Bool
def ipC (p : IP) : List Value := [.int .i64 p.ticks, .int .i64 p.most, .bool p.ended]
theorem ipC_len (p : IP) : (ipC p).length = 3 := rfl
def inC (n : Int) : List Value := [.int .i64 n]
theorem inC_len (n : Int) : (inC n).length = 1 := rfl

/-- All that a flow holds. -/
structure FS where
  C : Cf
  pv : Value
  ps : List IP
  m : Int
  bt : Nat
  TM : Int → Option Nat
  GM : Int → ByteArray → Option Int
  sv : Nat → Nat → Value
  SL : Nat → Nat → List Int
  tv : Value
  told : List (M.Pn ByteArray)
  av : Value
  after : List (M.Ev ByteArray)

/-- The flow's cells. -/
def FS.cell (s : FS) (i : Nat) : Value :=
  if i = 0 then .int .i64 s.C.size else if i = 1 then .int .i64 s.C.slide else if i = 2 then .int .i64 s.C.bound else if i = 3 then .int .i64 s.C.idle else if i = 4 then .int .i64 s.C.parts else if i = 5 then .int .i64 s.C.fold
  else if i = 6 then s.pv else if i = 7 then .int .i64 s.m else if i = 8 then .map (some s.bt)
  else if i < 265 then s.sv ((i - 9) / 16) ((i - 9) % 16) else if i = 265 then s.tv else s.av

theorem FS.cell_slot (s : FS) {l d : Nat} (hl : l < 16) (hd : d < 16) : s.cell (9 + l * 16 + d) = s.sv l d := by
  have h1 : (9 + l * 16 + d - 9) / 16 = l := by omega
  have h2 : (9 + l * 16 + d - 9) % 16 = d := by omega
  unfold FS.cell
  simp only [h1, h2]
  rw [if_neg (by omega), if_neg (by omega), if_neg (by omega), if_neg (by omega), if_neg (by omega), if_neg (by omega), if_neg (by omega), if_neg (by omega), if_neg (by omega), if_pos (by omega)]

structure FlObj (w : World) (g : Nat) (s : FS) : Prop where
  obj : ∃ arr : Array Value, w.heap[g]? = some (.cells arr 83 (0, 0)) ∧ arr.size = 267 ∧ ∀ i, i < 267 → arr[i]? = some (s.cell i)

section
variable {w w' : World} {g : Nat} {s s' : FS}
theorem FlObj.cell (h : FlObj w g s) {i : Nat} (hi : i < 267) : w.cell? ⟨g, i, none⟩ = some (s.cell i) := by
  obtain ⟨arr, h1, -, h3⟩ := h.obj
  rw [cell_of_row w g i _ _ _ h1]
  exact h3 i hi
theorem FlObj.frozen (h : FlObj w g s) (i : Nat) : w.frozen? ⟨g, i, none⟩ = false := by
  obtain ⟨arr, h1, -⟩ := h.obj
  exact frozen_of_row w g i _ _ h1
theorem FlObj.lt (h : FlObj w g s) : g < w.heap.size := by
  obtain ⟨arr, h1, -⟩ := h.obj
  exact lt_of_block h1
theorem FlObj.agree (h : FlObj w g s) (e : w'.heap[g]? = w.heap[g]?) : FlObj w' g s := by
  obtain ⟨arr, h1, h2⟩ := h.obj
  exact ⟨arr, e.trans h1, h2⟩
theorem FlObj.like (h : FlObj w g s) (e : ∀ i, i < 267 → s'.cell i = s.cell i) : FlObj w g s' := by
  obtain ⟨arr, h1, h2, h3⟩ := h.obj
  exact ⟨arr, h1, h2, fun i hi => by rw [e i hi]; exact h3 i hi⟩
theorem FlObj.set (h : FlObj w g s) {i : Nat} {v : Value} (hi : i < 267) (e : ∀ j, j < 267 → s'.cell j = if j = i then v else s.cell j) : FlObj (w.setCell ⟨g, i, none⟩ v) g s' := by
  obtain ⟨arr, h1, h2, h3⟩ := h.obj
  refine ⟨_, heap_setCell_same w g i _ _ v h1, by simpa using h2, fun j hj => ?_⟩
  rw [e j hj, Array.getElem?_setIfInBounds]
  split
  · rename_i he
    rw [if_pos (by omega), if_pos he.symm]
  · rename_i he
    rw [if_neg (fun x => he x.symm)]
    exact h3 j hj
end

/-- Slots by level and digit, one of them another. -/
def upd {α : Type} (f : Nat → Nat → α) (l d : Nat) (v : α) : Nat → Nat → α := fun a b => if a = l ∧ b = d then v else f a b
theorem upd_same {α : Type} (f : Nat → Nat → α) (l d : Nat) (v : α) : upd f l d v l d = v := by simp [upd]
theorem upd_other {α : Type} (f : Nat → Nat → α) {l d a b : Nat} (v : α) (h : ¬ (a = l ∧ b = d)) : upd f l d v a b = f a b := by simp [upd, h]

section
variable {w : World} {g : Nat} {s : FS}
theorem FlObj.setMark (h : FlObj w g s) (t : Int) : FlObj (w.setCell ⟨g, 7, none⟩ (.int .i64 t)) g { s with m := t } :=
  h.set (by omega) fun j _ => by
    by_cases e : j = 7
    · subst e; rfl
    · rw [if_neg e]
      unfold FS.cell
      rw [if_neg e, if_neg e]
theorem FlObj.setTold (h : FlObj w g s) (v : Value) (l : List (M.Pn ByteArray)) : FlObj (w.setCell ⟨g, 265, none⟩ v) g { s with tv := v, told := l } :=
  h.set (by omega) fun j _ => by
    by_cases e : j = 265
    · subst e; rfl
    · rw [if_neg e]
      unfold FS.cell
      rw [if_neg e, if_neg e]
theorem FlObj.setAfter (h : FlObj w g s) (v : Value) (l : List (M.Ev ByteArray)) : FlObj (w.setCell ⟨g, 266, none⟩ v) g { s with av := v, after := l } :=
  h.set (by omega) fun j hj => by
    by_cases e : j = 266
    · subst e; rfl
    · rw [if_neg e]
      unfold FS.cell
      by_cases e2 : j = 265
      · subst e2; rfl
      · have e3 : j < 265 := by omega
        rw [if_pos e3, if_pos e3]
theorem FlObj.setSlot (h : FlObj w g s) {l d : Nat} (hl : l < 16) (hd : d < 16) (v : Value) (es : List Int) : FlObj (w.setCell ⟨g, 9 + l * 16 + d, none⟩ v) g { s with sv := upd s.sv l d v, SL := upd s.SL l d es } :=
  h.set (by omega) fun j hj => by
    by_cases e : j = 9 + l * 16 + d
    · subst e
      rw [if_pos rfl, FS.cell_slot _ hl hd]
      exact upd_same _ _ _ _
    · rw [if_neg e]
      unfold FS.cell
      simp only
      by_cases e1 : j < 9
      · rcases (show j = 0 ∨ j = 1 ∨ j = 2 ∨ j = 3 ∨ j = 4 ∨ j = 5 ∨ j = 6 ∨ j = 7 ∨ j = 8 by omega) with rfl | rfl | rfl | rfl | rfl | rfl | rfl | rfl | rfl <;> rfl
      · rw [upd_other _ _ (fun h => e (by omega))]
end

/-- The flow lies at block g. -/
structure FlowIs (w : World) (g : Nat) (s : FS) : Prop where
  ob : FlObj w g s
  parts : RowIs ipC w 0 112 3 s.pv s.ps
  tls : TlsAt w s.bt s.TM
  tal : ∀ e b, s.TM e = some b → TalAt w b (s.GM e)
  tin : ∀ e b, s.TM e = some b → b ≠ s.bt ∧ ∀ e', s.TM e' = some b → e' = e
  slot : ∀ l d, l < 16 → d < 16 → RowIs inC w 0 3 1 (s.sv l d) (s.SL l d)
  sin : ∀ l d l' d' k, l < 16 → d < 16 → l' < 16 → d' < 16 → (s.sv l d).ownBlock = some k → (s.sv l' d').ownBlock = some k → l' = l ∧ d' = d
  told : RowIs pnC w 0 52 4 s.tv s.told
  late : RowIs evC w 0 54 4 s.av s.after

def slotsIn (s : FS) (k : Nat) : Prop := ∃ l d, l < 16 ∧ d < 16 ∧ (s.sv l d).ownBlock = some k
def foot (g : Nat) (s : FS) (k : Nat) : Prop := k = g ∨ s.pv.ownBlock = some k ∨ k = s.bt ∨ (∃ e, s.TM e = some k) ∨ slotsIn s k ∨ s.tv.ownBlock = some k ∨ s.av.ownBlock = some k

section
variable {w w' : World} {g : Nat} {s : FS}
theorem FlowIs.agree (h : FlowIs w g s) (e : ∀ k, foot g s k → w'.heap[k]? = w.heap[k]?) : FlowIs w' g s :=
  ⟨h.ob.agree (e g (.inl rfl)), h.parts.agree (fun k hk => e k (.inr (.inl hk))), h.tls.agree (e _ (.inr (.inr (.inl rfl)))), fun x b hb => (h.tal x b hb).agree (e _ (.inr (.inr (.inr (.inl ⟨x, hb⟩))))), h.tin,
    fun l d hl hd => (h.slot l d hl hd).agree (fun k hk => e k (.inr (.inr (.inr (.inr (.inl ⟨l, d, hl, hd, hk⟩)))))), h.sin, h.told.agree (fun k hk => e k (.inr (.inr (.inr (.inr (.inr (.inl hk))))))), h.late.agree (fun k hk => e k (.inr (.inr (.inr (.inr (.inr (.inr hk)))))))⟩
theorem FlowIs.foot_lt (h : FlowIs w g s) {k : Nat} (hk : foot g s k) : k < w.heap.size := by
  rcases hk with rfl | hk | rfl | ⟨e, hk⟩ | ⟨l, d, hl, hd, hk⟩ | hk | hk
  · exact h.ob.lt
  · exact (h.parts.lt k hk).2
  · exact h.tls.lt
  · exact (h.tal e k hk).lt
  · exact ((h.slot l d hl hd).lt k hk).2
  · exact (h.told.lt k hk).2
  · exact (h.late.lt k hk).2
theorem FlowIs.below (h : FlowIs w g s) (hb : Below w.heap.size w w') : FlowIs w' g s := h.agree fun _ hk => hb.block _ (h.foot_lt hk)

/-- What kind of thing a block is. -/
theorem row_kind {α : Type} {enc : α → List Value} {w : World} {B e n : Nat} {v : Value} {l : List α} (h : RowIs enc w B e n v l) {k : Nat} (hk : v.ownBlock = some k) : ∃ cur, w.heap[k]? = some (.cells cur e (0, 0)) := by
  rcases h.2 with ⟨e1, -⟩ | ⟨b, cap, cur, rfl, -, h1, -⟩
  · rw [e1] at hk; cases hk
  · simp only [Value.ownBlock, Option.some.injEq] at hk
    subst hk
    exact ⟨cur, h1⟩
theorem kinds_ne {w : World} {a b e e' : Nat} {c c' : Array Value} (h1 : w.heap[a]? = some (.cells c e (0, 0))) (h2 : w.heap[b]? = some (.cells c' e' (0, 0))) (hne : e ≠ e') : a ≠ b := fun x => by
  subst x; rw [h1] at h2; simp only [Option.some.injEq, Obj.cells.injEq] at h2; exact hne h2.2.1
theorem map_ne {w : World} {a b e : Nat} {c : Array Value} {es : Array MapEntry} {k : Nat} (h1 : w.heap[a]? = some (.cells c e (0, 0))) (h2 : w.heap[b]? = some (.map es k)) : a ≠ b := fun x => by
  subst x; rw [h1] at h2; simp at h2

/-- What each block of the flow is: none of another kind is the same. -/
inductive Kd where
  | flow | part | pane | event | slot (l d : Nat) | tls | tal (e : Int)
def kd (g : Nat) (s : FS) : Kd → Nat → Prop
  | .flow, k => k = g
  | .part, k => s.pv.ownBlock = some k
  | .pane, k => s.tv.ownBlock = some k
  | .event, k => s.av.ownBlock = some k
  | .slot l d, k => l < 16 ∧ d < 16 ∧ (s.sv l d).ownBlock = some k
  | .tls, k => k = s.bt
  | .tal e, k => s.TM e = some k

theorem foot_kd {g : Nat} {s : FS} {k : Nat} : foot g s k ↔ ∃ K, kd g s K k := by
  constructor
  · rintro (h | h | h | ⟨e, h⟩ | ⟨l, d, h⟩ | h | h)
    · exact ⟨.flow, h⟩
    · exact ⟨.part, h⟩
    · exact ⟨.tls, h⟩
    · exact ⟨.tal e, h⟩
    · exact ⟨.slot l d, h⟩
    · exact ⟨.pane, h⟩
    · exact ⟨.event, h⟩
  · rintro ⟨K, h⟩
    cases K with
    | flow => exact .inl h
    | part => exact .inr (.inl h)
    | pane => exact .inr (.inr (.inr (.inr (.inr (.inl h)))))
    | event => exact .inr (.inr (.inr (.inr (.inr (.inr h)))))
    | slot l d => exact .inr (.inr (.inr (.inr (.inl ⟨l, d, h⟩))))
    | tls => exact .inr (.inr (.inl h))
    | tal e => exact .inr (.inr (.inr (.inl ⟨e, h⟩)))

def Kd.num : Kd → Nat
  | .flow => 83
  | .part => 112
  | .pane => 52
  | .event => 54
  | .slot _ _ => 3
  | .tls => 0
  | .tal _ => 0

theorem kd_num (h : FlowIs w g s) {K : Kd} {k : Nat} (hk : kd g s K k) : (K.num ≠ 0 ∧ ∃ c, w.heap[k]? = some (.cells c K.num (0, 0))) ∨ (K.num = 0 ∧ ∃ es c, w.heap[k]? = some (.map es c)) := by
  cases K with
  | flow => obtain ⟨arr, h1, -⟩ := h.ob.obj; simp only [kd] at hk; subst hk; exact .inl ⟨by decide, arr, h1⟩
  | part => exact .inl ⟨by decide, row_kind h.parts hk⟩
  | pane => exact .inl ⟨by decide, row_kind h.told hk⟩
  | event => exact .inl ⟨by decide, row_kind h.late hk⟩
  | slot l d => exact .inl ⟨by simp [Kd.num], row_kind (h.slot l d hk.1 hk.2.1) hk.2.2⟩
  | tls => simp only [kd] at hk; subst hk; exact .inr ⟨rfl, h.tls.is_map⟩
  | tal e => exact .inr ⟨rfl, (h.tal e k hk).is_map⟩

/-- A block is of one kind. -/
theorem kd_inj (h : FlowIs w g s) {K K' : Kd} {k : Nat} (h1 : kd g s K k) (h2 : kd g s K' k) : K = K' := by
  have e : K.num = K'.num := by
    rcases kd_num h h1 with ⟨a1, c1, d1⟩ | ⟨a1, es1, c1, d1⟩ <;> rcases kd_num h h2 with ⟨a2, c2, d2⟩ | ⟨a2, es2, c2, d2⟩
    · rw [d1] at d2; simp only [Option.some.injEq, Obj.cells.injEq] at d2; exact d2.2.1
    · rw [d1] at d2; simp at d2
    · rw [d1] at d2; simp at d2
    · rw [a1, a2]
  cases K <;> cases K' <;> first | rfl | (exfalso; simp [Kd.num] at e; done) | skip
  all_goals clear e
  · rename_i l d l' d'
    have := h.sin l' d' l d k h2.1 h2.2.1 h1.1 h1.2.1 h2.2.2 h1.2.2
    rw [this.1, this.2]
  · rename_i e
    simp only [kd] at h1
    exact absurd h1 (h.tin e k h2).1
  · rename_i e
    simp only [kd] at h2
    exact absurd h2 (h.tin e k h1).1
  · rename_i e e'
    rw [(h.tin e k h1).2 e' h2]
end
end Go.Proofs.YtnnoaolceeendaaGreatDoor
