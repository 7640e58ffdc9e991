import Derived.Test.YtnnoaolceeendaaDoorRefK
namespace Go.Proofs.YtnnoaolceeendaaDoor
open Go.ChangeShapes Go.WideShapes Go.ChangeAt Go.RowKit

/-! ### Scripts: what the document's calls come to -/
/-- How much room there is: so many events may still come. -/
structure Room (f : M.Fl ByteArray) (N : Nat) : Prop where
  opn : f.opn.length + f.told.length + 11 * N ≤ 50000000
  after : f.after.length + N ≤ 50000000

/-- What holds of every flow on the way. -/
structure FlOk (C : Cf) (f : M.Fl ByteArray) : Prop where
  most : mostOk f.parts
  len : f.parts.length ≤ 8

theorem tell_len (m : Int) (f : M.Fl ByteArray) : (M.tellF ltK m f).opn.length + (M.tellF ltK m f).told.length = f.opn.length + f.told.length := by
  have key : ∀ l : List (M.Pn ByteArray), (l.filter fun p => decide (m < p.stop)).length + (l.filter fun p => decide (p.stop ≤ m)).length = l.length := by
    intro l
    induction l with
    | nil => rfl
    | cons p l ih =>
      by_cases h : m < p.stop
      · have h2 : ¬ p.stop ≤ m := by omega
        simp [h, h2]; omega
      · have h2 : p.stop ≤ m := by omega
        simp [h, h2]; omega
  have := key f.opn
  simp only [M.tellF, List.length_append, sortP_len]
  omega

theorem Room.take {f : M.Fl ByteArray} {N : Nat} (h : Room f (N + 1)) (C : Cf) (e : M.Ev ByteArray) : Room (M.takeF ltK C.size C.fold C.bound C.ws e f) N := by
  have h1 := tell_len (M.markOf C.bound f.now (f.parts.modify e.part.toNat (M.takeP e.at_))) { f with parts := f.parts.modify e.part.toNat (M.takeP e.at_), opn := M.countAll C.size C.fold f.now e.key e.val (C.ws e.at_) f.opn, after := if M.isLate C.size f.now (C.ws e.at_) = true then f.after ++ [e] else f.after }
  have h2 := countAll_len (size := C.size) (fold := C.fold) (now := f.now) (v := e.val) (key := e.key) (C.ws e.at_) f.opn
  have h3 : (C.ws e.at_).length ≤ 11 := wins_len _ _ _
  have ho := h.opn
  have ha := h.after
  refine ⟨?_, ?_⟩
  · show (M.tellF ltK _ _).opn.length + (M.tellF ltK _ _).told.length + 11 * N ≤ 50000000
    rw [h1]
    simp only at h2 ⊢
    omega
  · show (if M.isLate C.size f.now (C.ws e.at_) = true then f.after ++ [e] else f.after).length + N ≤ 50000000
    split
    · simp; omega
    · omega

theorem Room.move {f g : M.Fl ByteArray} {N : Nat} (h : Room f N) (C : Cf) (hg : g.opn = f.opn ∧ g.told = f.told ∧ g.after = f.after) : Room (M.moveF ltK C.bound g) N := by
  have h1 := tell_len (M.markOf C.bound g.now g.parts) g
  have ho := h.opn
  have ha := h.after
  refine ⟨?_, ?_⟩
  · show (M.tellF ltK _ _).opn.length + (M.tellF ltK _ _).told.length + 11 * N ≤ 50000000
    rw [h1, hg.1, hg.2.1]
    omega
  · show g.after.length + N ≤ 50000000
    rw [hg.2.2]
    omega

theorem FlOk.take {C : Cf} {f : M.Fl ByteArray} (h : FlOk C f) (e : M.Ev ByteArray) (ht1 : -9223372036854775808 ≤ e.at_) (ht2 : e.at_ ≤ 9223372036854775807) : FlOk C (M.takeF ltK C.size C.fold C.bound C.ws e f) := by
  have hp : (M.takeF ltK C.size C.fold C.bound C.ws e f).parts = f.parts.modify e.part.toNat (M.takeP e.at_) := rfl
  refine ⟨?_, by rw [hp, List.length_modify]; exact h.len⟩
  rw [hp]
  intro p hp'
  obtain ⟨j, hj⟩ := List.mem_iff_getElem?.1 hp'
  rw [List.getElem?_modify] at hj
  cases hx : f.parts[j]? with
  | none => simp [hx] at hj
  | some x =>
    have hm := h.most x (List.mem_of_getElem? hx)
    split at hj
    · simp only [hx, Option.map_eq_map, Option.map_some, Option.some.injEq] at hj
      subst hj
      simp only [M.takeP]
      split
      · exact ⟨ht1, ht2⟩
      · exact hm
    · simp only [hx, Option.map_eq_map, Option.map_some, Option.some.injEq] at hj
      subst hj
      exact hm

/-- Put: how many were taken, why the next one was not, and the flow behind it. -/
def putR (C : Cf) : List (M.Ev ByteArray) → M.Fl ByteArray → Nat × Int × M.Fl ByteArray
  | [], f => (0, 0, f)
  | e :: es, f =>
    if e.part < 0 ∨ (f.parts.length : Int) ≤ e.part then (0, 2, f)
    else if (f.parts.getD e.part.toNat M.newP).ended = true then (0, 3, f)
    else ((putR C es (M.takeF ltK C.size C.fold C.bound C.ws e f)).1 + 1, (putR C es (M.takeF ltK C.size C.fold C.bound C.ws e f)).2)

/-- The flow behind the first k events, all of them taken. -/
def putTo (C : Cf) (es : List (M.Ev ByteArray)) (k : Nat) (f : M.Fl ByteArray) : M.Fl ByteArray := (es.take k).foldl (fun f e => M.takeF ltK C.size C.fold C.bound C.ws e f) f

/-- May the event be taken? -/
def canTake (f : M.Fl ByteArray) (e : M.Ev ByteArray) : Prop := ¬ (e.part < 0 ∨ (f.parts.length : Int) ≤ e.part) ∧ (f.parts.getD e.part.toNat M.newP).ended = false

theorem putTo_succ (C : Cf) {es : List (M.Ev ByteArray)} {k : Nat} {e : M.Ev ByteArray} (h : es[k]? = some e) (f : M.Fl ByteArray) : putTo C es (k + 1) f = M.takeF ltK C.size C.fold C.bound C.ws e (putTo C es k f) := by
  unfold putTo
  rw [take_snoc' h, List.foldl_append]
  rfl

theorem putR_all (C : Cf) : ∀ (es : List (M.Ev ByteArray)) (f : M.Fl ByteArray) (k : Nat), (∀ j e, j < k → es[j]? = some e → canTake (putTo C es j f) e) → k ≤ es.length →
    putR C es f = (k + (putR C (es.drop k) (putTo C es k f)).1, (putR C (es.drop k) (putTo C es k f)).2)
  | es, f, 0, _, _ => by simp [putTo]
  | [], f, k + 1, _, h => by simp at h
  | e :: es, f, k + 1, hc, h => by
    have h0 := hc 0 e (by omega) rfl
    have h0' : canTake f e := h0
    rw [putR, if_neg h0'.1, if_neg (by rw [h0'.2]; simp)]
    have ih := putR_all C es (M.takeF ltK C.size C.fold C.bound C.ws e f) k (fun j e' hj he => by
      have := hc (j + 1) e' (by omega) (by simpa using he)
      exact this) (by simpa using h)
    rw [ih]
    have e1 : putTo C (e :: es) (k + 1) f = putTo C es k (M.takeF ltK C.size C.fold C.bound C.ws e f) := rfl
    rw [List.drop_succ_cons, e1]
    congr 1
    simp only
    omega
end Go.Proofs.YtnnoaolceeendaaDoor
namespace Go.Proofs.YtnnoaolceeendaaDoor
open Go.ChangeShapes Go.WideShapes Go.ChangeAt Go.RowKit

/-- The block that a slice leads into that is not empty. -/
def heldIn : Value → Option Nat
  | .slice (some a) (_ + 1) _ => some a.block
  | _ => none
theorem heldIn_own {v : Value} {b : Nat} (h : heldIn v = some b) : v.ownBlock = some b := by
  unfold heldIn at h
  split at h
  · exact h
  · cases h
theorem heldIn_mk {a : Addr} {n cap : Nat} (h : 0 < n) : heldIn (.slice (some a) n cap) = some a.block := by
  cases n with
  | zero => omega
  | succ n => rfl
theorem heldIn_at {α : Type} {es : List α} {k : Nat} {e : α} (h : es[k]? = some e) {a : Addr} {cap : Nat} : heldIn (.slice (some a) es.length cap) = some a.block :=
  heldIn_mk (by have := (List.getElem?_eq_some_iff.1 h).1; omega)

/-- A list of events lies in memory, wherever. -/
structure EvsAt (w : World) (v : Value) (es : List (M.Ev ByteArray)) : Prop where
  form : ∃ a cap, v = .slice a es.length cap
  lies : ∀ k e, es[k]? = some e → ∃ b off cap, v = .slice (some ⟨b, off, none⟩) es.length cap ∧ b < w.heap.size ∧ w.cell? ⟨b, off + k * 4, none⟩ = some (.int .i64 e.part) ∧ w.cell? ⟨b, off + k * 4 + 1, none⟩ = some (.string e.key) ∧ w.cell? ⟨b, off + k * 4 + 2, none⟩ = some (.int .i64 e.at_) ∧ w.cell? ⟨b, off + k * 4 + 3, none⟩ = some (.int .i64 e.val)

theorem EvsAt.touch {S : Nat → Prop} {w w' : World} {v : Value} {es : List (M.Ev ByteArray)} (h : EvsAt w v es) (ht : Touch S w w') (hn : ∀ b, heldIn v = some b → ¬ S b) : EvsAt w' v es :=
  ⟨h.form, fun k e he => by
    obtain ⟨b, off, cap, hv, hb, h0, h1, h2, h3⟩ := h.lies k e he
    have hs := hn b (by rw [hv]; exact heldIn_at he)
    exact ⟨b, off, cap, hv, Nat.lt_of_lt_of_le hb ht.size, ht.cell hb hs h0, ht.cell hb hs h1, ht.cell hb hs h2, ht.cell hb hs h3⟩⟩

/-- The key is a text, the value a number of 64 bits. -/
def plainEv (e : M.Ev ByteArray) : Prop := e.key.size ≤ 1048576 ∧ -9223372036854775808 ≤ e.val ∧ e.val ≤ 9223372036854775807
def timesOk (es : List (M.Ev ByteArray)) : Prop := ∀ e ∈ es, -9223372036854775808 ≤ e.at_ ∧ e.at_ ≤ 9223372036854775807 ∧ plainEv e

theorem putTo_zero (C : Cf) (es : List (M.Ev ByteArray)) (f : M.Fl ByteArray) : putTo C es 0 f = f := rfl

end Go.Proofs.YtnnoaolceeendaaDoor
namespace Go.Proofs.YtnnoaolceeendaaDoor
open Go.ChangeShapes Go.WideShapes Go.ChangeAt Go.RowKit

/-- A list of numbers lies in memory, wherever. -/
structure IntsAt (w : World) (v : Value) (es : List Int) : Prop where
  form : ∃ a cap, v = .slice a es.length cap
  lies : ∀ (k : Nat) (e : Int), es[k]? = some e → ∃ b off cap, v = .slice (some ⟨b, off, none⟩) es.length cap ∧ b < w.heap.size ∧ w.cell? ⟨b, off + k, none⟩ = some (.int .i64 e)

theorem IntsAt.touch {S : Nat → Prop} {w w' : World} {v : Value} {es : List Int} (h : IntsAt w v es) (ht : Touch S w w') (hn : ∀ b, heldIn v = some b → ¬ S b) : IntsAt w' v es :=
  ⟨h.form, fun k e he => by
    obtain ⟨b, off, cap, hv, hb, h0⟩ := h.lies k e he
    have hs := hn b (by rw [hv]; exact heldIn_at he)
    exact ⟨b, off, cap, hv, Nat.lt_of_lt_of_le hb ht.size, ht.cell hb hs h0⟩⟩

/-- End: how many ended, why the next one did not, and the flow behind it. -/
def endR (C : Cf) : List Int → M.Fl ByteArray → Nat × Int × M.Fl ByteArray
  | [], f => (0, 0, f)
  | e :: es, f =>
    if e < 0 ∨ (f.parts.length : Int) ≤ e then (0, 2, f)
    else if (f.parts.getD e.toNat M.newP).ended = true then (0, 3, f)
    else ((endR C es (M.endF ltK C.bound e.toNat f)).1 + 1, (endR C es (M.endF ltK C.bound e.toNat f)).2)

def endTo (C : Cf) (es : List Int) (k : Nat) (f : M.Fl ByteArray) : M.Fl ByteArray := (es.take k).foldl (fun f e => M.endF ltK C.bound e.toNat f) f

def canEnd (f : M.Fl ByteArray) (e : Int) : Prop := ¬ (e < 0 ∨ (f.parts.length : Int) ≤ e) ∧ (f.parts.getD e.toNat M.newP).ended = false

theorem endTo_succ (C : Cf) {es : List Int} {k : Nat} {e : Int} (h : es[k]? = some e) (f : M.Fl ByteArray) : endTo C es (k + 1) f = M.endF ltK C.bound e.toNat (endTo C es k f) := by
  unfold endTo
  rw [take_snoc' h, List.foldl_append]
  rfl

theorem endR_all (C : Cf) : ∀ (es : List Int) (f : M.Fl ByteArray) (k : Nat), (∀ (j : Nat) (e : Int), j < k → es[j]? = some e → canEnd (endTo C es j f) e) → k ≤ es.length →
    endR C es f = (k + (endR C (es.drop k) (endTo C es k f)).1, (endR C (es.drop k) (endTo C es k f)).2)
  | es, f, 0, _, _ => by simp [endTo]
  | [], f, k + 1, _, h => by simp at h
  | e :: es, f, k + 1, hc, h => by
    have h0 := hc 0 e (by omega) rfl
    have h0' : canEnd f e := h0
    rw [endR, if_neg h0'.1, if_neg (by rw [h0'.2]; simp)]
    have ih := endR_all C es (M.endF ltK C.bound e.toNat f) k (fun j e' hj he => by
      have := hc (j + 1) e' (by omega) (by simpa using he)
      exact this) (by simpa using h)
    rw [ih]
    have e1 : endTo C (e :: es) (k + 1) f = endTo C es k (M.endF ltK C.bound e.toNat f) := rfl
    rw [List.drop_succ_cons, e1]
    congr 1
    simp only
    omega

theorem FlOk.fin {C : Cf} {f : M.Fl ByteArray} (h : FlOk C f) (i : Nat) : FlOk C (M.endF ltK C.bound i f) := by
  have hp : (M.endF ltK C.bound i f).parts = f.parts.modify i (fun p => { p with ended := true }) := rfl
  refine ⟨?_, by rw [hp, List.length_modify]; exact h.len⟩
  rw [hp]
  intro p hp'
  obtain ⟨j, hj⟩ := List.mem_iff_getElem?.1 hp'
  rw [List.getElem?_modify] at hj
  cases hx : f.parts[j]? with
  | none => simp [hx] at hj
  | some x =>
    have hm := h.most x (List.mem_of_getElem? hx)
    split at hj
    · simp only [hx, Option.map_eq_map, Option.map_some, Option.some.injEq] at hj
      subst hj
      exact hm
    · simp only [hx, Option.map_eq_map, Option.map_some, Option.some.injEq] at hj
      subst hj
      exact hm

theorem Room.fin {f : M.Fl ByteArray} {N : Nat} (h : Room f N) (C : Cf) (i : Nat) : Room (M.endF ltK C.bound i f) N := h.move C ⟨rfl, rfl, rfl⟩

theorem Touch.drawn {S : Nat → Prop} {w w1 w2 : World} (h : Touch S w w1) (e : w2.heap = w1.heap := by rfl) (o : w2.os = w1.os := by rfl) (t : w2.tape = w1.tape := by rfl) (p : w2.output = w1.output := by rfl) : Touch S w w2 :=
  ⟨o.trans h.os, t.trans h.tape, p.trans h.output, by rw [e]; exact h.size, fun k hk hn => by rw [e]; exact h.block k hk hn⟩

end Go.Proofs.YtnnoaolceeendaaDoor
namespace Go.Proofs.YtnnoaolceeendaaDoor
open Go.ChangeShapes Go.WideShapes Go.ChangeAt Go.RowKit

def ticksF (C : Cf) : Nat → M.Fl ByteArray → M.Fl ByteArray
  | 0, f => f
  | n + 1, f => M.tickF ltK C.bound C.idle (ticksF C n f)

def tickR (C : Cf) (n : Int) (f : M.Fl ByteArray) : Int × M.Fl ByteArray := if n < 0 ∨ 1000 < n then (1, f) else (0, ticksF C n.toNat f)

/-- The parts behind a tick as far as the first k. -/
def tickedTo (idle : Int) (ps : List M.Pt) (k : Nat) : List M.Pt := (ps.take k).map (M.tickP idle) ++ ps.drop k

theorem tickedTo_len (idle : Int) (ps : List M.Pt) (k : Nat) : (tickedTo idle ps k).length = ps.length := by
  simp only [tickedTo, List.length_append, List.length_map, List.length_take, List.length_drop]; omega

theorem tickedTo_at (idle : Int) {ps : List M.Pt} {k : Nat} {x : M.Pt} (h : ps[k]? = some x) : (tickedTo idle ps k)[k]? = some x := by
  have hk := List.getElem?_eq_some_iff.1 h
  unfold tickedTo
  rw [List.getElem?_append_right (by simp; omega)]
  simp [Nat.min_eq_left (Nat.le_of_lt hk.1), h]

theorem tickedTo_succ (idle : Int) {ps : List M.Pt} {k : Nat} {x : M.Pt} (h : ps[k]? = some x) : (tickedTo idle ps k).set k (M.tickP idle x) = tickedTo idle ps (k + 1) := by
  have hk := List.getElem?_eq_some_iff.1 h
  unfold tickedTo
  have hk1 := hk.1
  rw [take_snoc' h, List.map_append, List.set_append_right _ _ (by simp; omega)]
  have e1 : k - ((ps.take k).map (M.tickP idle)).length = 0 := by simp; omega
  rw [e1, List.drop_eq_getElem_cons hk.1, List.set_cons_zero]
  simp

/-- What holds between two ticks: nobody has been silent too long to count. -/
def silentOk (n : Int) (ps : List M.Pt) : Prop := ∀ p ∈ ps, 0 ≤ p.silent ∧ p.silent ≤ n

theorem ticked_ok {C : Cf} {q : M.Fl ByteArray} (h : FlOk C q) (k : Nat) : mostOk (tickedTo C.idle q.parts k) := fun p hp => by
  unfold tickedTo at hp
  rcases List.mem_append.1 hp with h' | h'
  · obtain ⟨x, hx, rfl⟩ := List.mem_map.1 h'
    have := h.most x (List.mem_of_mem_take hx)
    unfold M.tickP
    split
    · exact this
    · exact this
  · exact h.most p (List.mem_of_mem_drop h')

theorem FlOk.tick {C : Cf} {q : M.Fl ByteArray} (h : FlOk C q) : FlOk C (M.tickF ltK C.bound C.idle q) := by
  have hp : (M.tickF ltK C.bound C.idle q).parts = q.parts.map (M.tickP C.idle) := rfl
  refine ⟨?_, by rw [hp, List.length_map]; exact h.len⟩
  have := ticked_ok h q.parts.length
  rw [hp]
  simpa [tickedTo] using this

theorem Room.tick {q : M.Fl ByteArray} {N : Nat} (h : Room q N) (C : Cf) : Room (M.tickF ltK C.bound C.idle q) N := h.move C ⟨rfl, rfl, rfl⟩

theorem silent_tick {C : Cf} {q : M.Fl ByteArray} {n : Int} (h : silentOk n q.parts) : silentOk (n + 1) (M.tickF ltK C.bound C.idle q).parts := fun p hp => by
  have hp' : p ∈ q.parts.map (M.tickP C.idle) := hp
  obtain ⟨x, hx, rfl⟩ := List.mem_map.1 hp'
  have := h x hx
  unfold M.tickP
  split
  · omega
  · simp only; omega

theorem set_same {α : Type} : ∀ {l : List α} {k : Nat} {x : α}, l[k]? = some x → l.set k x = l
  | [], _, _, h => by simp at h
  | y :: l, 0, x, h => by
    simp at h
    subst h
    rfl
  | y :: l, k + 1, x, h => by
    have h' : l[k]? = some x := by simpa using h
    rw [List.set_cons_succ, set_same h']

end Go.Proofs.YtnnoaolceeendaaDoor
