import Derived.Test.YtnnoaolceeendaaGreatDoorRefA
namespace Go.Proofs.YtnnoaolceeendaaGreatDoor
open Go.ChangeShapes Go.WideShapes Go.ChangeAt Go.RowKit

/-! ### Rows of structs -/
theorem flat_len {α : Type} {enc : α → List Value} {s : Nat} (hs : ∀ x, (enc x).length = s) : ∀ l : List α, (l.flatMap enc).length = l.length * s
  | [] => by simp
  | x :: l => by simp [hs, flat_len hs l, Nat.add_mul]; omega

theorem flat_get {α : Type} {enc : α → List Value} {s : Nat} (hs : ∀ x, (enc x).length = s) : ∀ (l : List α) (i j : Nat) (x : α), l[i]? = some x → j < s → (l.flatMap enc)[i * s + j]? = (enc x)[j]?
  | [], _, _, _, h, _ => by simp at h
  | y :: l, 0, j, x, h, hj => by
    simp at h
    subst h
    rw [List.flatMap_cons, Nat.zero_mul, Nat.zero_add, List.getElem?_append_left (by rw [hs]; exact hj)]
  | y :: l, i + 1, j, x, h, hj => by
    rw [List.flatMap_cons, List.getElem?_append_right (by rw [hs, Nat.add_mul]; omega), hs, show (i + 1) * s + j - s = i * s + j by rw [Nat.add_mul]; omega]
    exact flat_get hs l i j x (by simpa using h) hj

/-- The row of a list whose elements lie as 'enc' says, each s cells of type e. -/
def RowIs {α : Type} (enc : α → List Value) (w : World) (B e s : Nat) (v : Value) (l : List α) : Prop := w.ownsRow B e s v l.length (l.flatMap enc)

theorem pnC_len (p : M.Pn ByteArray) : (pnC p).length = 4 := rfl
theorem evC_len (p : M.Ev ByteArray) : (evC p).length = 4 := rfl

section
variable {α : Type} {enc : α → List Value} {w w' : World} {B e s : Nat} {v : Value} {l : List α}

theorem RowIs.below (h : RowIs enc w B e s v l) (hb : Below w.heap.size w w') : RowIs enc w' B e s v l :=
  World.ownsRow.kept (row := none) h ⟨hb.os, hb.tape, hb.output, hb.size, fun k hk _ => hb.block k hk⟩ (by cases v.ownBlock <;> simp)

theorem RowIs.nil (enc : α → List Value) (w : World) (B e s : Nat) : RowIs enc w B e s (.slice none 0 0) [] := World.ownsRow_nil w B e s

theorem RowIs.slice (h : RowIs enc w B e s v l) : ∃ a cap, v = .slice a l.length cap := by
  rcases h.2 with ⟨rfl, h0⟩ | ⟨g, cap, cur, rfl, _⟩
  · exact ⟨_, _, by rw [h0]⟩
  · exact ⟨_, _, rfl⟩

/-- An element's cells. -/
theorem RowIs.at (h : RowIs enc w B e s v l) (hs : ∀ x, (enc x).length = s) {i : Nat} {x : α} (hx : l[i]? = some x) :
    ∃ g cap, v = .slice (some ⟨g, 0, none⟩) l.length cap ∧ B ≤ g ∧ g < w.heap.size ∧ (∀ j, j < s → w.cell? ⟨g, i * s + j, none⟩ = (enc x)[j]?) ∧ ∀ j, w.frozen? ⟨g, j, none⟩ = false := by
  have hi : i < l.length := (List.getElem?_eq_some_iff.1 hx).1
  have h0 := h
  rcases h.2 with ⟨_, h2⟩ | ⟨g, cap, cur, rfl, hg, hh, _⟩
  · omega
  · refine ⟨g, cap, rfl, hg, lt_of_block hh, fun j hj => ?_, fun j => World.ownsRow.frozenAt h0 j⟩
    rw [World.ownsRow.cellAt h0 (i * s + j) (by
      have : (i + 1) * s ≤ l.length * s := Nat.mul_le_mul_right s hi
      rw [Nat.add_mul] at this; omega)]
    exact flat_get hs l i j x hx hj

theorem RowIs.lt (h : RowIs enc w B e s v l) : ∀ k, v.ownBlock = some k → B ≤ k ∧ k < w.heap.size := World.ownsRow.lt h
theorem RowIs.base (h : RowIs enc w B e s v l) {B' : Nat} (hB : B' ≤ B) : RowIs enc w B' e s v l := by
  refine ⟨h.1, ?_⟩
  rcases h.2 with h | ⟨g, cap, cur, hv, hg, r⟩
  · exact .inl h
  · exact .inr ⟨g, cap, cur, hv, Nat.le_trans hB hg, r⟩
end

/-- 'append(out, x)': one struct onto a row of the call's own. -/
theorem wpList_push {P : Program} {α : Type} {enc : α → List Value} {ops : Array Oper} {rest : List Oper} {o : Oper} {a : Act} {Q : Exit → Act → World → Prop} (w : World) (hgd : o.guard = none) (s x : Operand) (t : TypeId)
    (ho : o.op = .call { callee := .builtin .append, args := #[s, x], argTypes := #[t, t] })
    (B : Nat) (e : TypeId) (i : TypeInfo) (z : Value) (size bytes : Nat) (ht : P.underlying t = some (.slice e)) (hi : P.info? e = some i) (hz : i.zero = some z)
    (hsize : i.size = size) (hby : i.bytes = bytes) (hzs : z.cells.size = size) (hsz : 0 < size)
    (v : Value) (l : List α) (y : α) (hs : a.eval s = v) (hown : RowIs enc w B e size v l) (cs : Array Value) (hcs : cs.toList = enc y)
    (hx : a.eval x = .slice (some ⟨w.heap.size, 0, none⟩) 1 1) (hlen : (enc y).length = size) (h1 : ∀ u ∈ enc y, u.oneCell' = true)
    (hbytes : (l.length + 1) * bytes ≤ 140737488355328) (h63 : l.length + 1 ≤ maxLen) (hB : B ≤ w.heap.size)
    (h : ∀ v' w', RowIs enc w' B e size v' (l ++ [y]) → Below B w w' → wpList P ops Q rest (a.put o.dst v') w') : wpList P ops Q (o :: rest) a (w.alloc (.cells cs e)) := by
  refine wpList_append_own (w.alloc (.cells cs e)) hgd s x t ho B e i z size bytes ht hi hz hsize hby hzs hsz v l.length (l.flatMap enc) hs (World.ownsRow.alloc hown _) ⟨w.heap.size, 0, none⟩ 1 1 (enc y) hx (by rw [hlen, Nat.one_mul]) (fun j u hj => ?_) h1 h63 hbytes (by simp; omega) (fun v' w' hr hg _ => h v' w' ?_ ?_)
  · have e1 : (⟨w.heap.size, 0, none⟩ : Addr).add j = ⟨w.heap.size, j, none⟩ := by unfold Addr.add; split <;> simp_all
    rw [e1, World.cell?_alloc_new, ← Array.getElem?_toList, hcs]
    exact hj
  · unfold RowIs
    simpa using hr
  · exact ((Below.refl _ _).alloc hB _).grown hg (by simp; omega) (fun k hk => (World.ownsRow.lt hown k hk).1)

theorem pnC_one (p : M.Pn ByteArray) : ∀ u ∈ pnC p, u.oneCell' = true := by intro u hu; simp [pnC] at hu; rcases hu with rfl | rfl | rfl | rfl <;> rfl
theorem evC_one (p : M.Ev ByteArray) : ∀ u ∈ evC p, u.oneCell' = true := by intro u hu; simp [evC] at hu; rcases hu with rfl | rfl | rfl | rfl <;> rfl

theorem keepAt {W w1 : World} {B b o : Nat} (hb : Below B W w1) (hlt : b < B) {v : Value} (k : W.cell? ⟨b, o, none⟩ = some v) : w1.cell? ⟨b, o, none⟩ = some v := (hb.cell (p := ⟨b, o, none⟩) hlt).trans k

theorem pn_snoc {w1 : World} {B e : Nat} {v' : Value} {acc : List (M.Pn ByteArray)} {p : M.Pn ByteArray} (h : w1.ownsRow B e 4 v' (acc.length + 1) (acc.flatMap pnC ++ pnC p)) : RowIs pnC w1 B e 4 v' (acc ++ [p]) := by
  unfold RowIs
  simpa using h

theorem Tryz.infoPn : (Tryz.prog.info? 101).map (fun i => (i.zero, i.size, i.bytes)) = some (some (.agg #[.int .i64 0, .int .i64 0, .string ByteArray.empty, .int .i64 0]), 4, 40) := by kernel_rfl

/-! ### insert -/
def insStep (p : M.Pn ByteArray) (st : Bool × List (M.Pn ByteArray)) (x : M.Pn ByteArray) : Bool × List (M.Pn ByteArray) :=
  if st.1 = false ∧ M.lessP ltK p x = true then (true, st.2 ++ [p, x]) else (st.1, st.2 ++ [x])

theorem ins_true (p : M.Pn ByteArray) : ∀ (l a : List (M.Pn ByteArray)), l.foldl (insStep p) (true, a) = (true, a ++ l)
  | [], a => by simp
  | x :: l, a => by
    rw [List.foldl_cons, show insStep p (true, a) x = (true, a ++ [x]) by simp [insStep], ins_true p l]
    simp

/-- What the loop comes to. -/
def insEnd (p : M.Pn ByteArray) (st : Bool × List (M.Pn ByteArray)) : List (M.Pn ByteArray) := if st.1 = true then st.2 else st.2 ++ [p]

theorem ins_false (p : M.Pn ByteArray) : ∀ (l a : List (M.Pn ByteArray)), insEnd p (l.foldl (insStep p) (false, a)) = a ++ M.insP ltK p l
  | [], a => by simp [insEnd, M.insP]
  | x :: l, a => by
    rw [List.foldl_cons, M.insP]
    by_cases h : M.lessP ltK p x = true
    · rw [show insStep p (false, a) x = (true, a ++ [p, x]) by simp [insStep, h], ins_true, if_pos h]
      simp [insEnd]
    · rw [show insStep p (false, a) x = (false, a ++ [x]) by simp [insStep, h], ins_false p l, if_neg h]
      simp

def insAt (p : M.Pn ByteArray) (l : List (M.Pn ByteArray)) (k : Nat) : Bool × List (M.Pn ByteArray) := (l.take k).foldl (insStep p) (false, [])

theorem insAt_succ (p : M.Pn ByteArray) (l : List (M.Pn ByteArray)) {k : Nat} {x : M.Pn ByteArray} (h : l[k]? = some x) : insAt p l (k + 1) = insStep p (insAt p l k) x := by
  have hk := (List.getElem?_eq_some_iff.1 h)
  unfold insAt
  rw [List.take_succ_eq_append_getElem hk.1, List.foldl_append, hk.2]
  rfl

theorem insAt_len (p : M.Pn ByteArray) (l : List (M.Pn ByteArray)) : ∀ k, (insAt p l k).2.length ≤ k + 1
  | 0 => by simp [insAt]
  | k + 1 => by
    have key : ∀ (t : List (M.Pn ByteArray)) (st : Bool × List (M.Pn ByteArray)), (t.foldl (insStep p) st).2.length ≤ st.2.length + t.length + (if st.1 = true then 0 else 1) := by
      intro t
      induction t with
      | nil => intro st; simp
      | cons x t ih =>
        intro st
        rw [List.foldl_cons]
        have := ih (insStep p st x)
        unfold insStep at this ⊢
        split at this
        · rename_i h
          rw [if_pos h]
          simp [h.1] at this ⊢
          omega
        · rename_i h
          rw [if_neg h]
          simp at this ⊢
          omega
    have := key (l.take (k + 1)) (false, [])
    have h2 : (l.take (k + 1)).length ≤ k + 1 := List.length_take_le _ _
    unfold insAt
    simp at this
    omega
end Go.Proofs.YtnnoaolceeendaaGreatDoor
