import Derived.Test.YtnnoaolceeendaaGreatDoorRefG
namespace Go.Proofs.YtnnoaolceeendaaGreatDoor
open Go.ChangeShapes Go.WideShapes Go.ChangeAt Go.RowKit

/-! ### What has turned -/
theorem Touch.refl (S : Nat → Prop) (w : World) : Touch S w w := ⟨rfl, rfl, rfl, Nat.le_refl _, fun _ _ _ => rfl⟩
theorem Touch.trans {S S' : Nat → Prop} {a b c : World} (h : Touch S a b) (k : Touch S' b c) (hs : ∀ i, S' i → S i ∨ a.heap.size ≤ i) : Touch S a c :=
  ⟨k.os.trans h.os, k.tape.trans h.tape, k.output.trans h.output, Nat.le_trans h.size k.size, fun i hi hn => (k.block i (Nat.lt_of_lt_of_le hi h.size) (fun h' => (hs i h').elim hn (fun h'' => by omega))).trans (h.block i hi hn)⟩
theorem Touch.of_below {S : Nat → Prop} {w w' : World} (h : Below w.heap.size w w') : Touch S w w' := ⟨h.os, h.tape, h.output, h.size, fun k hk _ => h.block k hk⟩
theorem Touch.below {S : Nat → Prop} {w w' : World} {B : Nat} (h : Touch S w w') (hB : B ≤ w.heap.size) (hs : ∀ k, S k → B ≤ k) : Below B w w' :=
  ⟨h.os, h.tape, h.output, h.size, fun k hk => h.block k (by omega) (fun h' => by have := hs k h'; omega)⟩
theorem Touch.set {S : Nat → Prop} {w : World} {a : Addr} (h : S a.block) (v : Value) : Touch S w (w.setCell a v) :=
  ⟨rfl, rfl, rfl, by simp, fun k _ hn => Below.heap_setCell w a v k (fun e => hn (e ▸ h))⟩
theorem Touch.grown {S : Nat → Prop} {w w' : World} {row : Option Nat} (h : w.grownBy w' row) (hs : ∀ k, row = some k → S k) : Touch S w w' :=
  ⟨h.os, h.tape, h.output, h.size, fun k hk hn => h.block k hk (fun e => hn (hs k e.symm))⟩
theorem Touch.mono {S S' : Nat → Prop} {w w' : World} (h : Touch S w w') (hs : ∀ k, S k → S' k) : Touch S' w w' := ⟨h.os, h.tape, h.output, h.size, fun k hk hn => h.block k hk (fun h' => hn (hs k h'))⟩
theorem Touch.cell {S : Nat → Prop} {w w' : World} (h : Touch S w w') {b o : Nat} {v : Value} (hb : b < w.heap.size) (hn : ¬ S b) (k : w.cell? ⟨b, o, none⟩ = some v) : w'.cell? ⟨b, o, none⟩ = some v :=
  (World.cell?_of_block (w := w) (a := ⟨b, o, none⟩) (h.block b hb hn)).trans k
theorem Touch.row {α : Type} {enc : α → List Value} {S : Nat → Prop} {w w' : World} {B e s : Nat} {v : Value} {l : List α} (h : Touch S w w') (hr : RowIs enc w B e s v l) (hn : ∀ k, v.ownBlock = some k → ¬ S k) : RowIs enc w' B e s v l :=
  hr.agree fun k hk => h.block k (hr.lt k hk).2 (hn k hk)

/-- From w on the flow has come to f, at w'; what has turned lies in S or is new. -/
def RefTo (S : Nat → Prop) (w w' : World) (g : Nat) (C : Cf) (f : M.Fl ByteArray) : Prop :=
  ∃ pv ov tv av, RefAt w' g C f pv ov tv av ∧ Touch S w w' ∧ ∀ k, feet g pv ov tv av k → S k ∨ w.heap.size ≤ k

theorem RefAt.to {w : World} {g : Nat} {C : Cf} {f : M.Fl ByteArray} {pv ov tv av : Value} (h : RefAt w g C f pv ov tv av) : RefTo (feet g pv ov tv av) w w g C f := ⟨pv, ov, tv, av, h, Touch.refl _ _, fun _ hk => .inl hk⟩

theorem RefTo.next {S S' : Nat → Prop} {w w1 w2 : World} {g : Nat} {C : Cf} {f : M.Fl ByteArray} (h : Touch S w w1) (hs : ∀ k, S' k → S k ∨ w.heap.size ≤ k) (k : RefTo S' w1 w2 g C f) : RefTo S w w2 g C f := by
  obtain ⟨pv, ov, tv, av, hr, ht, hf⟩ := k
  exact ⟨pv, ov, tv, av, hr, h.trans ht hs, fun i hi => (hf i hi).elim (hs i) (fun h' => .inr (Nat.le_trans h.size h'))⟩

/-! ### The flow's fields, stored anew -/
section
variable {w : World} {g : Nat} {C : Cf} {f : M.Fl ByteArray} {pv ov tv av : Value}

theorem row_set_obj {α : Type} {enc : α → List Value} {B e s : Nat} {v : Value} {l : List α} (h : RowIs enc w B e s v l) (hn : ∀ k, v.ownBlock = some k → k ≠ g) (i : Nat) (u : Value) : RowIs enc (w.setCell ⟨g, i, none⟩ u) B e s v l :=
  h.agree fun k hk => Below.heap_setCell w _ u k (hn k hk)

theorem RefAt.setNow (h : RefAt w g C f pv ov tv av) (m : Int) : RefAt (w.setCell ⟨g, 7, none⟩ (.int .i64 m)) g C { f with now := m } pv ov tv av :=
  ⟨heap_setCell_same w g 7 _ _ _ h.obj, row_set_obj h.parts (fun k hk => h.far k (.inl hk)) _ _, row_set_obj h.opn (fun k hk => h.far k (.inr (.inl hk))) _ _, row_set_obj h.told (fun k hk => h.far k (.inr (.inr (.inl hk)))) _ _, row_set_obj h.after (fun k hk => h.far k (.inr (.inr (.inr hk)))) _ _, h.far, h.pof, h.oft, h.tfa⟩

/-- The list of open panes, stored anew: its row lies apart from all others. -/
theorem RefAt.setOpn (h : RefAt w g C f pv ov tv av) {ov' : Value} {l : List (M.Pn ByteArray)} (hr : RowIs pnC w 0 101 4 ov' l) (hn : ∀ k, ov'.ownBlock = some k → k ≠ g ∧ pv.ownBlock ≠ some k ∧ tv.ownBlock ≠ some k ∧ av.ownBlock ≠ some k) :
    RefAt (w.setCell ⟨g, 8, none⟩ ov') g C { f with opn := l } pv ov' tv av :=
  ⟨heap_setCell_same w g 8 _ _ _ h.obj, row_set_obj h.parts (fun k hk => h.far k (.inl hk)) _ _, row_set_obj hr (fun k hk => (hn k hk).1) _ _, row_set_obj h.told (fun k hk => h.far k (.inr (.inr (.inl hk)))) _ _, row_set_obj h.after (fun k hk => h.far k (.inr (.inr (.inr hk)))) _ _,
    fun k hk => by
      rcases hk with hk | hk | hk | hk
      · exact h.far k (.inl hk)
      · exact (hn k hk).1
      · exact h.far k (.inr (.inr (.inl hk)))
      · exact h.far k (.inr (.inr (.inr hk))),
    fun k hk => ⟨fun he => (hn k he).2.1 hk, (h.pof k hk).2⟩, fun k hk => (hn k hk).2.2, h.tfa⟩

theorem RefAt.setTold (h : RefAt w g C f pv ov tv av) {tv' : Value} {l : List (M.Pn ByteArray)} (hr : RowIs pnC w 0 101 4 tv' l) (hn : ∀ k, tv'.ownBlock = some k → k ≠ g ∧ pv.ownBlock ≠ some k ∧ ov.ownBlock ≠ some k ∧ av.ownBlock ≠ some k) :
    RefAt (w.setCell ⟨g, 9, none⟩ tv') g C { f with told := l } pv ov tv' av :=
  ⟨heap_setCell_same w g 9 _ _ _ h.obj, row_set_obj h.parts (fun k hk => h.far k (.inl hk)) _ _, row_set_obj h.opn (fun k hk => h.far k (.inr (.inl hk))) _ _, row_set_obj hr (fun k hk => (hn k hk).1) _ _, row_set_obj h.after (fun k hk => h.far k (.inr (.inr (.inr hk)))) _ _,
    fun k hk => by
      rcases hk with hk | hk | hk | hk
      · exact h.far k (.inl hk)
      · exact h.far k (.inr (.inl hk))
      · exact (hn k hk).1
      · exact h.far k (.inr (.inr (.inr hk))),
    fun k hk => ⟨(h.pof k hk).1, fun he => (hn k he).2.1 hk, (h.pof k hk).2.2⟩, fun k hk => ⟨fun he => (hn k he).2.2.1 hk, (h.oft k hk).2⟩, fun k hk => (hn k hk).2.2.2⟩

theorem RefAt.setAfter (h : RefAt w g C f pv ov tv av) {av' : Value} {l : List (M.Ev ByteArray)} (hr : RowIs evC w 0 90 4 av' l) (hn : ∀ k, av'.ownBlock = some k → k ≠ g ∧ pv.ownBlock ≠ some k ∧ ov.ownBlock ≠ some k ∧ tv.ownBlock ≠ some k) :
    RefAt (w.setCell ⟨g, 10, none⟩ av') g C { f with after := l } pv ov tv av' :=
  ⟨heap_setCell_same w g 10 _ _ _ h.obj, row_set_obj h.parts (fun k hk => h.far k (.inl hk)) _ _, row_set_obj h.opn (fun k hk => h.far k (.inr (.inl hk))) _ _, row_set_obj h.told (fun k hk => h.far k (.inr (.inr (.inl hk)))) _ _, row_set_obj hr (fun k hk => (hn k hk).1) _ _,
    fun k hk => by
      rcases hk with hk | hk | hk | hk
      · exact h.far k (.inl hk)
      · exact h.far k (.inr (.inl hk))
      · exact h.far k (.inr (.inr (.inl hk)))
      · exact (hn k hk).1,
    fun k hk => ⟨(h.pof k hk).1, (h.pof k hk).2.1, fun he => (hn k he).2.1 hk⟩, fun k hk => ⟨(h.oft k hk).1, fun he => (hn k he).2.2.1 hk⟩, fun k hk he => (hn k he).2.2.2 hk⟩

theorem RefAt.frozen (h : RefAt w g C f pv ov tv av) (i : Nat) : w.frozen? ⟨g, i, none⟩ = false := frozen_of_row w g i _ _ h.obj
end

/-- 'append(out, x)': one struct onto a row of the call's own; where the new slice lies. -/
theorem wpList_push2 {P : Program} {α : Type} {enc : α → List Value} {ops : Array Oper} {rest : List Oper} {o : Oper} {a : Act} {Q : Exit → Act → World → Prop} (w : World) (hgd : o.guard = none) (s x : Operand) (t : TypeId)
    (ho : o.op = .call { callee := .builtin .append, args := #[s, x], argTypes := #[t, t] })
    (B : Nat) (e : TypeId) (i : TypeInfo) (z : Value) (size bytes : Nat) (ht : P.underlying t = some (.slice e)) (hi : P.info? e = some i) (hz : i.zero = some z)
    (hsize : i.size = size) (hby : i.bytes = bytes) (hzs : z.cells.size = size) (hsz : 0 < size)
    (v : Value) (l : List α) (y : α) (hs : a.eval s = v) (hown : RowIs enc w B e size v l) (cs : Array Value) (hcs : cs.toList = enc y)
    (hx : a.eval x = .slice (some ⟨w.heap.size, 0, none⟩) 1 1) (hlen : (enc y).length = size) (h1 : ∀ u ∈ enc y, u.oneCell' = true)
    (hbytes : (l.length + 1) * bytes ≤ 140737488355328) (h63 : l.length + 1 ≤ maxLen) (hB : B ≤ w.heap.size)
    (h : ∀ gg cap w', RowIs enc w' B e size (.slice (some ⟨gg, 0, none⟩) (l.length + 1) cap) (l ++ [y]) → w.grownBy w' v.ownBlock → (v.ownBlock = some gg ∨ w.heap.size ≤ gg) → wpList P ops Q rest (a.put o.dst (.slice (some ⟨gg, 0, none⟩) (l.length + 1) cap)) w') : wpList P ops Q (o :: rest) a (w.alloc (.cells cs e)) := by
  refine wpList_append_lies (w.alloc (.cells cs e)) hgd s x t ho B e i z size bytes ht hi hz hsize hby hzs hsz v l.length (l.flatMap enc) hs (World.ownsRow.alloc hown _) ⟨w.heap.size, 0, none⟩ 1 1 (enc y) hx (by rw [hlen, Nat.one_mul]) (fun j u hj => ?_) h1 (by omega) h63 hbytes (by simp; omega) (w.heap.size + 1) (by simp) (fun gg cap w' hr hg hat _ => h gg cap w' ?_ ?_ ?_)
  · have e1 : (⟨w.heap.size, 0, none⟩ : Addr).add j = ⟨w.heap.size, j, none⟩ := by unfold Addr.add; split <;> simp_all
    rw [e1, World.cell?_alloc_new, ← Array.getElem?_toList, hcs]
    exact hj
  · unfold RowIs
    simpa using hr
  · exact ⟨hg.os, hg.tape, hg.output, Nat.le_trans (by simp) hg.size, fun k hk hne => (hg.block k (by simp; omega) hne).trans (Below.heap_alloc w _ k hk)⟩
  · rcases hat with h' | h'
    · exact .inl h'
    · exact .inr (by omega)

/-! ### Panes in order, one by one -/
theorem sort_snoc (l : List (M.Pn ByteArray)) (p : M.Pn ByteArray) : M.sortP ltK (l ++ [p]) = M.insP ltK p (M.sortP ltK l) := by simp [M.sortP]
theorem ins_len (p : M.Pn ByteArray) (l : List (M.Pn ByteArray)) : (M.insP ltK p l).length = l.length + 1 := (M.insP_perm (lt := ltK)).length_eq.trans (by simp)
theorem sort_len : ∀ (l acc : List (M.Pn ByteArray)), (l.foldl (fun acc p => M.insP ltK p acc) acc).length = acc.length + l.length
  | [], acc => by simp
  | p :: l, acc => by rw [List.foldl_cons, sort_len l, ins_len]; simp; omega
theorem sortP_len (l : List (M.Pn ByteArray)) : (M.sortP ltK l).length = l.length := by
  unfold M.sortP
  rw [sort_len]
  simp
theorem filter_snoc {l : List (M.Pn ByteArray)} {k : Nat} {x : M.Pn ByteArray} (h : l[k]? = some x) (q : M.Pn ByteArray → Bool) : (l.take (k + 1)).filter q = (l.take k).filter q ++ (if q x = true then [x] else []) := by
  rw [take_snoc' h, List.filter_append]
  congr 1
  by_cases hq : q x = true <;> simp [hq]
end Go.Proofs.YtnnoaolceeendaaGreatDoor
