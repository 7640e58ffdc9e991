import Derived.Test.YtnnoaolceeendaaDoorLawC
namespace Go.Proofs.YtnnoaolceeendaaDoor
open Go.ChangeShapes Go.WideShapes Go.ChangeAt Go.RowKit

/-- What lies new from B on, apart from one another: the four lists of 'told'. -/
theorem row_below {α : Type} {enc : α → List Value} {w w' : World} {B e s : Nat} {v : Value} {l : List α} (h : RowIs enc w B e s v l) (hb : Below w.heap.size w w') : RowIs enc w' B e s v l ∧ ∀ b, v.ownBlock = some b → b < w.heap.size := ⟨h.below hb, fun b hb' => (h.lt b hb').2⟩

end Go.Proofs.YtnnoaolceeendaaDoor
namespace Go.Proofs.YtnnoaolceeendaaDoor
open Go.ChangeShapes Go.WideShapes Go.ChangeAt Go.RowKit

def both (S : Nat → Prop) (gr : Nat) (pv ov tv av : Value) : Nat → Prop := fun k => S k ∨ feet gr pv ov tv av k

section
variable {L : World → Prop} {B0 : Nat} {FA : World → Nat → Cf → M.Fl ByteArray → (Nat → Prop) → Prop} {w w1 w2 w3 : World} {g gr : Nat} {C : Cf} {q q1 : M.Fl ByteArray} {S S2 : Nat → Prop} {pv ov tv av : Value}

end

/-- A step of a script. -/
def stepF (C : Cf) (kind : Int) (es : List (M.Ev ByteArray)) (ps : List Int) (n : Int) (f : M.Fl ByteArray) : M.Fl ByteArray :=
  if kind = 1 then (putR C es f).2.2 else if kind = 2 then (tickR C n f).2 else if kind = 3 then (endR C ps f).2.2 else f

theorem evs_apart {w : World} {v : Value} {es : List (M.Ev ByteArray)} (h : EvsAt w v es) {w' : World} {U : Nat → Prop} (t : Touch U w w') (hn : ∀ b, heldIn v = some b → ¬ U b) : EvsAt w' v es := h.touch t hn

end Go.Proofs.YtnnoaolceeendaaDoor
namespace Go.Proofs.YtnnoaolceeendaaDoor
open Go.ChangeShapes Go.WideShapes Go.ChangeAt Go.RowKit

theorem putR_room (C : Cf) : ∀ (es : List (M.Ev ByteArray)) (f : M.Fl ByteArray) (N : Nat), Room f (es.length + N) → Room (putR C es f).2.2 N
  | [], f, N, h => ⟨by have := h.opn; simp at this; exact this, by have := h.after; simp at this; exact this⟩
  | e :: es, f, N, h => by
    have h' : Room f N := ⟨by have := h.opn; simp at this; omega, by have := h.after; simp at this; omega⟩
    rw [putR]
    split
    · exact h'
    · split
      · exact h'
      · refine putR_room C es _ N ?_
        have h2 : Room f ((es.length + N) + 1) := ⟨by have := h.opn; simp at this; omega, by have := h.after; simp at this; omega⟩
        exact h2.take C e

theorem putR_ok (C : Cf) : ∀ (es : List (M.Ev ByteArray)) (f : M.Fl ByteArray), timesOk es → FlOk C f → FlOk C (putR C es f).2.2
  | [], f, _, h => h
  | e :: es, f, ht, h => by
    rw [putR]
    split
    · exact h
    · split
      · exact h
      · exact putR_ok C es _ (fun x hx => ht x (by simp [hx])) (h.take e (ht e (by simp)).1 (ht e (by simp)).2.1)

theorem putR_silent (C : Cf) {sb : Int} (h0 : 0 ≤ sb) : ∀ (es : List (M.Ev ByteArray)) (f : M.Fl ByteArray), silentOk sb f.parts → silentOk sb (putR C es f).2.2.parts
  | [], f, h => h
  | e :: es, f, h => by
    rw [putR]
    split
    · exact h
    · split
      · exact h
      · refine putR_silent C h0 es _ ?_
        have hp : (M.takeF ltK C.size C.fold C.bound C.ws e f).parts = f.parts.modify e.part.toNat (M.takeP e.at_) := rfl
        rw [hp]
        intro p hp'
        obtain ⟨j, hj⟩ := List.mem_iff_getElem?.1 hp'
        rw [List.getElem?_modify] at hj
        cases hx : f.parts[j]? with
        | none => simp [hx] at hj
        | some x =>
          have hm := h x (List.mem_of_getElem? hx)
          split at hj
          · simp only [hx, Option.map_eq_map, Option.map_some, Option.some.injEq] at hj
            subst hj
            simp only [M.takeP]
            omega
          · simp only [hx, Option.map_eq_map, Option.map_some, Option.some.injEq] at hj
            subst hj
            exact hm

theorem endR_room (C : Cf) : ∀ (es : List Int) (f : M.Fl ByteArray) (N : Nat), Room f N → Room (endR C es f).2.2 N
  | [], f, N, h => h
  | e :: es, f, N, h => by
    rw [endR]
    split
    · exact h
    · split
      · exact h
      · exact endR_room C es _ N (h.fin C _)
theorem endR_ok (C : Cf) : ∀ (es : List Int) (f : M.Fl ByteArray), FlOk C f → FlOk C (endR C es f).2.2
  | [], f, h => h
  | e :: es, f, h => by
    rw [endR]
    split
    · exact h
    · split
      · exact h
      · exact endR_ok C es _ (h.fin _)
theorem end_silent {C : Cf} {sb : Int} {f : M.Fl ByteArray} (i : Nat) (h : silentOk sb f.parts) : silentOk sb (M.endF ltK C.bound i f).parts := by
  have hp : (M.endF ltK C.bound i f).parts = f.parts.modify i (fun p => { p with ended := true }) := rfl
  rw [hp]
  intro p hp'
  obtain ⟨j, hj⟩ := List.mem_iff_getElem?.1 hp'
  rw [List.getElem?_modify] at hj
  cases hx : f.parts[j]? with
  | none => simp [hx] at hj
  | some x =>
    have hm := h x (List.mem_of_getElem? hx)
    split at hj
    · simp only [hx, Option.map_eq_map, Option.map_some, Option.some.injEq] at hj
      subst hj
      exact hm
    · simp only [hx, Option.map_eq_map, Option.map_some, Option.some.injEq] at hj
      subst hj
      exact hm
theorem endR_silent (C : Cf) {sb : Int} : ∀ (es : List Int) (f : M.Fl ByteArray), silentOk sb f.parts → silentOk sb (endR C es f).2.2.parts
  | [], f, h => h
  | e :: es, f, h => by
    rw [endR]
    split
    · exact h
    · split
      · exact h
      · exact endR_silent C es _ (end_silent _ h)

theorem ticks_room (C : Cf) {N : Nat} : ∀ (n : Nat) (f : M.Fl ByteArray), Room f N → Room (ticksF C n f) N
  | 0, _, h => h
  | n + 1, f, h => (ticks_room C n f h).tick C
theorem ticks_ok (C : Cf) : ∀ (n : Nat) (f : M.Fl ByteArray), FlOk C f → FlOk C (ticksF C n f)
  | 0, _, h => h
  | n + 1, f, h => (ticks_ok C n f h).tick
theorem ticks_silent (C : Cf) {sb : Int} : ∀ (n : Nat) (f : M.Fl ByteArray), silentOk sb f.parts → silentOk (sb + n) (ticksF C n f).parts
  | 0, f, h => by
    show silentOk (sb + ((0 : Nat) : Int)) f.parts
    simpa using h
  | n + 1, f, h => by
    have := silent_tick (C := C) (ticks_silent C n f h)
    rw [show sb + ((n + 1 : Nat) : Int) = sb + n + 1 by omega]
    exact this

theorem silent_mono {a b : Int} {ps : List M.Pt} (h : silentOk a ps) (hab : a ≤ b) : silentOk b ps := fun p hp => by have := h p hp; omega

theorem stepF_room (C : Cf) (kind n : Int) (es : List (M.Ev ByteArray)) (ps : List Int) (f : M.Fl ByteArray) (N : Nat) (h : Room f (es.length + N)) : Room (stepF C kind es ps n f) N := by
  have h' : Room f N := ⟨by have := h.opn; omega, by have := h.after; omega⟩
  unfold stepF tickR
  split
  · exact putR_room C es f N h
  · split
    · split
      · exact h'
      · exact ticks_room C _ f h'
    · split
      · exact endR_room C ps f N h'
      · exact h'
theorem stepF_ok (C : Cf) (kind n : Int) (es : List (M.Ev ByteArray)) (ps : List Int) (f : M.Fl ByteArray) (ht : timesOk es) (h : FlOk C f) : FlOk C (stepF C kind es ps n f) := by
  unfold stepF tickR
  split
  · exact putR_ok C es f ht h
  · split
    · split
      · exact h
      · exact ticks_ok C _ f h
    · split
      · exact endR_ok C ps f h
      · exact h
theorem stepF_silent (C : Cf) (kind n : Int) (es : List (M.Ev ByteArray)) (ps : List Int) (f : M.Fl ByteArray) {sb : Int} (h0 : 0 ≤ sb) (h : silentOk sb f.parts) : silentOk (sb + 1000) (stepF C kind es ps n f).parts := by
  unfold stepF tickR
  split
  · exact silent_mono (putR_silent C h0 es f h) (by omega)
  · split
    · split
      · exact silent_mono h (by omega)
      · exact silent_mono (ticks_silent C n.toNat f h) (by omega)
    · split
      · exact silent_mono (endR_silent C ps f h) (by omega)
      · exact silent_mono h (by omega)

/-! ### Scripts -/
structure Sc where
  kind : Int
  es : List (M.Ev ByteArray)
  ps : List Int
  n : Int

structure ScAt (w : World) (v : Value) (sc : List Sc) : Prop where
  form : ∃ a cap, v = .slice a sc.length cap
  lies : ∀ k o, sc[k]? = some o → ∃ b off cap ev iv, v = .slice (some ⟨b, off, none⟩) sc.length cap ∧ b < w.heap.size ∧ w.cell? ⟨b, off + k * 4, none⟩ = some (.int .i64 o.kind) ∧ w.cell? ⟨b, off + k * 4 + 1, none⟩ = some ev ∧ w.cell? ⟨b, off + k * 4 + 2, none⟩ = some iv ∧ w.cell? ⟨b, off + k * 4 + 3, none⟩ = some (.int .i64 o.n) ∧
    EvsAt w ev o.es ∧ IntsAt w iv o.ps ∧ (∀ q, heldIn ev = some q → q < w.heap.size) ∧ (∀ q, heldIn iv = some q → q < w.heap.size)

def tot (sc : List Sc) : Nat := (sc.map fun o => o.es.length).sum

def scTo (C : Cf) (sc : List Sc) (k : Nat) (f : M.Fl ByteArray) : M.Fl ByteArray := (sc.take k).foldl (fun f o => stepF C o.kind o.es o.ps o.n f) f

theorem scTo_succ (C : Cf) {sc : List Sc} {k : Nat} {o : Sc} (h : sc[k]? = some o) (f : M.Fl ByteArray) : scTo C sc (k + 1) f = stepF C o.kind o.es o.ps o.n (scTo C sc k f) := by
  unfold scTo
  rw [take_snoc' h, List.foldl_append]
  rfl

theorem tot_drop {sc : List Sc} {k : Nat} {o : Sc} (h : sc[k]? = some o) : tot (sc.drop k) = o.es.length + tot (sc.drop (k + 1)) := by
  have := List.getElem?_eq_some_iff.1 h
  rw [List.drop_eq_getElem_cons this.1, this.2]
  simp [tot]

theorem ints_below {w w' : World} {v : Value} {es : List Int} (h : IntsAt w v es) (hb : Below w.heap.size w w') : IntsAt w' v es := h.touch (Touch.of_below (S := fun _ => False) hb) (fun _ _ h => h)

theorem ScAt.below {w w' : World} {v : Value} {sc : List Sc} (h : ScAt w v sc) (hb : Below w.heap.size w w') {k : Nat} {o : Sc} (ho : sc[k]? = some o) :
    ∃ b off cap ev iv, v = .slice (some ⟨b, off, none⟩) sc.length cap ∧ b < w.heap.size ∧ w'.cell? ⟨b, off + k * 4, none⟩ = some (.int .i64 o.kind) ∧ w'.cell? ⟨b, off + k * 4 + 1, none⟩ = some ev ∧ w'.cell? ⟨b, off + k * 4 + 2, none⟩ = some iv ∧ w'.cell? ⟨b, off + k * 4 + 3, none⟩ = some (.int .i64 o.n) ∧
      EvsAt w' ev o.es ∧ IntsAt w' iv o.ps ∧ (∀ q, heldIn ev = some q → q < w.heap.size) ∧ (∀ q, heldIn iv = some q → q < w.heap.size) := by
  obtain ⟨b, off, cap, ev, iv, h1, h2, h3, h4, h5, h6, h7, h8, h9, h10⟩ := h.lies k o ho
  exact ⟨b, off, cap, ev, iv, h1, h2, keepAt hb h2 h3, keepAt hb h2 h4, keepAt hb h2 h5, keepAt hb h2 h6, h7.below hb, ints_below h8 hb, h9, h10⟩

theorem newF_ok (C : Cf) {n : Nat} (h : n ≤ 8) : FlOk C (M.newF n) := ⟨fun p hp => by
  have := List.eq_of_mem_replicate hp
  subst this
  simp [M.newP], by simp [M.newF, h]⟩
theorem newF_silent (n : Nat) : silentOk 0 (M.newF n : M.Fl ByteArray).parts := fun p hp => by
  have := List.eq_of_mem_replicate hp
  subst this
  simp [M.newP]
theorem newF_room {n N : Nat} (h : N ≤ 4000000) : Room (M.newF n) N := ⟨by simp [M.newF]; omega, by simp [M.newF]; omega⟩
end Go.Proofs.YtnnoaolceeendaaDoor
