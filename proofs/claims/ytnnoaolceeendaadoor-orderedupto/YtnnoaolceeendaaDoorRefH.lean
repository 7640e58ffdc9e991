import Derived.Test.YtnnoaolceeendaaDoorRefG
namespace Go.Proofs.YtnnoaolceeendaaDoor
open Go.ChangeShapes Go.WideShapes Go.ChangeAt Go.RowKit

/-! ### What has turned -/
theorem Touch.refl (S : Nat → Prop) (w : World) : Touch S w w := ⟨rfl, rfl, rfl, Nat.le_refl _, fun _ _ _ => rfl⟩
theorem Touch.trans {S S' : Nat → Prop} {a b c : World} (h : Touch S a b) (k : Touch S' b c) (hs : ∀ i, S' i → S i ∨ a.heap.size ≤ i) : Touch S a c :=
  ⟨k.os.trans h.os, k.tape.trans h.tape, k.output.trans h.output, Nat.le_trans h.size k.size, fun i hi hn => (k.block i (Nat.lt_of_lt_of_le hi h.size) (fun h' => (hs i h').elim hn (fun h'' => by omega))).trans (h.block i hi hn)⟩
theorem Touch.of_below {S : Nat → Prop} {w w' : World} (h : Below w.heap.size w w') : Touch S w w' := ⟨h.os, h.tape, h.output, h.size, fun k hk _ => h.block k hk⟩
theorem Touch.below {S : Nat → Prop} {w w' : World} {B : Nat} (h : Touch S w w') (hB : B ≤ w.heap.size) (hs : ∀ k, S k → B ≤ k) : Below B w w' :=
  ⟨h.os, h.tape, h.output, h.size, fun k hk => h.block k (by omega) (fun h' => by have := hs k h'; omega)⟩
theorem Touch.set {S : Nat → Prop} {w : World} {a : Addr} (h : S a.block) (v : Value) : Touch S w (w.setCell a v) :=
  ⟨rfl, rfl, rfl, by simp, fun k _ hn => Below.heap_setCell w a v k (fun e => hn (e ▸ h))⟩
theorem Touch.grown {S : Nat → Prop} {w w' : World} {row : Option Nat} (h : w.grownBy w' row) (hs : ∀ k, row = some k → S k) : Touch S w w' :=
  ⟨h.os, h.tape, h.output, h.size, fun k hk hn => h.block k hk (fun e => hn (hs k e.symm))⟩
theorem Touch.mono {S S' : Nat → Prop} {w w' : World} (h : Touch S w w') (hs : ∀ k, S k → S' k) : Touch S' w w' := ⟨h.os, h.tape, h.output, h.size, fun k hk hn => h.block k hk (fun h' => hn (hs k h'))⟩
theorem Touch.cell {S : Nat → Prop} {w w' : World} (h : Touch S w w') {b o : Nat} {v : Value} (hb : b < w.heap.size) (hn : ¬ S b) (k : w.cell? ⟨b, o, none⟩ = some v) : w'.cell? ⟨b, o, none⟩ = some v :=
  (World.cell?_of_block (w := w) (a := ⟨b, o, none⟩) (h.block b hb hn)).trans k
theorem Touch.row {α : Type} {enc : α → List Value} {S : Nat → Prop} {w w' : World} {B e s : Nat} {v : Value} {l : List α} (h : Touch S w w') (hr : RowIs enc w B e s v l) (hn : ∀ k, v.ownBlock = some k → ¬ S k) : RowIs enc w' B e s v l :=
  hr.agree fun k hk => h.block k (hr.lt k hk).2 (hn k hk)

/-! ### The flow's fields, stored anew -/
section
variable {w : World} {g : Nat} {C : Cf} {f : M.Fl ByteArray} {pv ov tv av : Value}

theorem row_set_obj {α : Type} {enc : α → List Value} {B e s : Nat} {v : Value} {l : List α} (h : RowIs enc w B e s v l) (hn : ∀ k, v.ownBlock = some k → k ≠ g) (i : Nat) (u : Value) : RowIs enc (w.setCell ⟨g, i, none⟩ u) B e s v l :=
  h.agree fun k hk => Below.heap_setCell w _ u k (hn k hk)

end

/-- 'append(out, x)': one struct onto a row of the call's own; where the new slice lies. -/
theorem wpList_push2 {P : Program} {α : Type} {enc : α → List Value} {ops : Array Oper} {rest : List Oper} {o : Oper} {a : Act} {Q : Exit → Act → World → Prop} (w : World) (hgd : o.guard = none) (s x : Operand) (t : TypeId)
    (ho : o.op = .call { callee := .builtin .append, args := #[s, x], argTypes := #[t, t] })
    (B : Nat) (e : TypeId) (i : TypeInfo) (z : Value) (size bytes : Nat) (ht : P.underlying t = some (.slice e)) (hi : P.info? e = some i) (hz : i.zero = some z)
    (hsize : i.size = size) (hby : i.bytes = bytes) (hzs : z.cells.size = size) (hsz : 0 < size)
    (v : Value) (l : List α) (y : α) (hs : a.eval s = v) (hown : RowIs enc w B e size v l) (cs : Array Value) (hcs : cs.toList = enc y)
    (hx : a.eval x = .slice (some ⟨w.heap.size, 0, none⟩) 1 1) (hlen : (enc y).length = size) (h1 : ∀ u ∈ enc y, u.oneCell' = true)
    (hbytes : (l.length + 1) * bytes ≤ 140737488355328) (h63 : l.length + 1 ≤ maxLen) (hB : B ≤ w.heap.size)
    (h : ∀ gg cap w', RowIs enc w' B e size (.slice (some ⟨gg, 0, none⟩) (l.length + 1) cap) (l ++ [y]) → w.grownBy w' v.ownBlock → (v.ownBlock = some gg ∨ w.heap.size ≤ gg) → wpList P ops Q rest (a.put o.dst (.slice (some ⟨gg, 0, none⟩) (l.length + 1) cap)) w') : wpList P ops Q (o :: rest) a (w.alloc (.cells cs e)) := by
  refine wpList_append_lies (w.alloc (.cells cs e)) hgd s x t ho B e i z size bytes ht hi hz hsize hby hzs hsz v l.length (l.flatMap enc) hs (World.ownsRow.alloc hown _) ⟨w.heap.size, 0, none⟩ 1 1 (enc y) hx (by rw [hlen, Nat.one_mul]) (fun j u hj => ?_) h1 (by omega) h63 hbytes (by simp; omega) (w.heap.size + 1) (by simp) (fun gg cap w' hr hg hat _ => h gg cap w' ?_ ?_ ?_)
  · have e1 : (⟨w.heap.size, 0, none⟩ : Addr).add j = ⟨w.heap.size, j, none⟩ := by unfold Addr.add; split <;> simp_all
    rw [e1, World.cell?_alloc_new, ← Array.getElem?_toList, hcs]
    exact hj
  · unfold RowIs
    simpa using hr
  · exact ⟨hg.os, hg.tape, hg.output, Nat.le_trans (by simp) hg.size, fun k hk hne => (hg.block k (by simp; omega) hne).trans (Below.heap_alloc w _ k hk)⟩
  · rcases hat with h' | h'
    · exact .inl h'
    · exact .inr (by omega)

/-! ### Panes in order, one by one -/
theorem sort_snoc (l : List (M.Pn ByteArray)) (p : M.Pn ByteArray) : M.sortP ltK (l ++ [p]) = M.insP ltK p (M.sortP ltK l) := by simp [M.sortP]
theorem ins_len (p : M.Pn ByteArray) (l : List (M.Pn ByteArray)) : (M.insP ltK p l).length = l.length + 1 := (M.insP_perm (lt := ltK)).length_eq.trans (by simp)
theorem sort_len : ∀ (l acc : List (M.Pn ByteArray)), (l.foldl (fun acc p => M.insP ltK p acc) acc).length = acc.length + l.length
  | [], acc => by simp
  | p :: l, acc => by rw [List.foldl_cons, sort_len l, ins_len]; simp; omega
theorem sortP_len (l : List (M.Pn ByteArray)) : (M.sortP ltK l).length = l.length := by
  unfold M.sortP
  rw [sort_len]
  simp
theorem filter_snoc {l : List (M.Pn ByteArray)} {k : Nat} {x : M.Pn ByteArray} (h : l[k]? = some x) (q : M.Pn ByteArray → Bool) : (l.take (k + 1)).filter q = (l.take k).filter q ++ (if q x = true then [x] else []) := by
  rw [take_snoc' h, List.filter_append]
  congr 1
  by_cases hq : q x = true <;> simp [hq]
end Go.Proofs.YtnnoaolceeendaaDoor
