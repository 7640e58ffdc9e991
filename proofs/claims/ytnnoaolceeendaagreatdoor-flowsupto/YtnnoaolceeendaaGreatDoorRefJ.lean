import Derived.Test.YtnnoaolceeendaaGreatDoorRefI
import Derived.Test.YtnnoaolceeendaaGreatDoorWinR
import Derived.Deep.DrawnRows
import Derived.RegionTactic
import Derived.BigRegion
namespace Go.Proofs.YtnnoaolceeendaaGreatDoor
open Go.ChangeShapes Go.WideShapes Go.ChangeAt Go.RowKit

/-- A part's field, stored anew. -/
theorem RefAt.setPart {w : World} {g : Nat} {C : Cf} {f : M.Fl ByteArray} {ov tv av : Value} {pb n cap : Nat} (h : RefAt w g C f (.slice (some ⟨pb, 0, none⟩) n cap) ov tv av) (hn : f.parts.length = n) {i j : Nat} {x y : M.Pt} {u : Value} (hx : f.parts[i]? = some x) (hj : j < 5) (he : ptC y = (ptC x).set j u) :
    RefAt (w.setCell ⟨pb, i * 5 + j, none⟩ u) g C { f with parts := f.parts.set i y } (.slice (some ⟨pb, 0, none⟩) n cap) ov tv av := by
  subst hn
  have hs := h.parts.set ptC_len hx hj he
  have hne : ∀ k, k ≠ pb → (w.setCell ⟨pb, i * 5 + j, none⟩ u).heap[k]? = w.heap[k]? := fun k hk => Below.heap_setCell w _ u k hk
  have hpb := h.pof pb rfl
  refine ⟨(hne g (fun e => h.far pb (.inl rfl) e.symm)).trans h.obj, ?_, h.opn.agree (fun k hk => hne k (fun e => hpb.1 (e ▸ hk))), h.told.agree (fun k hk => hne k (fun e => hpb.2.1 (e ▸ hk))), h.after.agree (fun k hk => hne k (fun e => hpb.2.2 (e ▸ hk))), h.far, h.pof, h.oft, h.tfa⟩
  exact hs.1

/-- The open panes, grown or written in place, stored anew. -/
theorem RefAt.regrowOpn {wr w1 : World} {g : Nat} {C : Cf} {f : M.Fl ByteArray} {pv ov tv av ov' : Value} {l : List (M.Pn ByteArray)} (h : RefAt wr g C f pv ov tv av) (hr : RowIs pnC w1 0 101 4 ov' l) (hg : Grows wr w1 ov ov') :
    RefAt (w1.setCell ⟨g, 8, none⟩ ov') g C { f with opn := l } pv ov' tv av ∧ (∀ b, feet g pv ov' tv av b → feet g pv ov tv av b ∨ wr.heap.size ≤ b) ∧ Touch (feet g pv ov tv av) wr (w1.setCell ⟨g, 8, none⟩ ov') := by
  have hfar := h.far
  have hgl := lt_of_block h.obj
  have same : ∀ b, b < wr.heap.size → ov.ownBlock ≠ some b → w1.heap[b]? = wr.heap[b]? := fun b hb hne => hg.grown.block b hb (fun e => hne e.symm)
  have hgg : ∀ b, ov'.ownBlock = some b → b ≠ g ∧ pv.ownBlock ≠ some b ∧ tv.ownBlock ≠ some b ∧ av.ownBlock ≠ some b := fun b hb => by
    rcases hg.blk b hb with h' | h'
    · exact ⟨hfar b (.inr (.inl h')), fun e => (h.pof b e).1 h', (h.oft b h').1, (h.oft b h').2⟩
    · exact ⟨by omega, fun e => by have := (h.parts.lt b e).2; omega, fun e => by have := (h.told.lt b e).2; omega, fun e => by have := (h.after.lt b e).2; omega⟩
  have hog : ov.ownBlock ≠ some g := fun e => hfar g (.inr (.inl e)) rfl
  refine ⟨⟨?_, ?_, ?_, ?_, ?_, ?_, ?_, ?_, ?_⟩, ?_, ?_⟩
  · exact heap_setCell_same w1 g 8 _ _ _ ((same g hgl hog).trans h.obj)
  · exact row_set_obj (h.parts.agree fun b hb => same b (h.parts.lt b hb).2 ((h.pof b hb).1)) (fun b hb => hfar b (.inl hb)) _ _
  · exact row_set_obj hr (fun b hb => (hgg b hb).1) _ _
  · exact row_set_obj (h.told.agree fun b hb => same b (h.told.lt b hb).2 (fun e => (h.oft b e).1 hb)) (fun b hb => hfar b (.inr (.inr (.inl hb)))) _ _
  · exact row_set_obj (h.after.agree fun b hb => same b (h.after.lt b hb).2 (fun e => (h.oft b e).2 hb)) (fun b hb => hfar b (.inr (.inr (.inr hb)))) _ _
  · intro b hb
    rcases hb with hb | hb | hb | hb
    · exact hfar b (.inl hb)
    · exact (hgg b hb).1
    · exact hfar b (.inr (.inr (.inl hb)))
    · exact hfar b (.inr (.inr (.inr hb)))
  · intro b hb
    exact ⟨fun e => (hgg b e).2.1 hb, (h.pof b hb).2⟩
  · intro b hb
    exact (hgg b hb).2.2
  · exact h.tfa
  · intro b hb
    rcases hb with hb | hb | hb | hb | hb
    · exact .inl (.inl hb)
    · exact .inl (.inr (.inl hb))
    · exact (hg.blk b hb).imp (fun h' => .inr (.inr (.inl h'))) id
    · exact .inl (.inr (.inr (.inr (.inl hb))))
    · exact .inl (.inr (.inr (.inr (.inr hb))))
  · exact (Touch.grown hg.grown (fun b hb => .inr (.inr (.inl hb)))).trans (Touch.set (S := feet g pv ov tv av) (.inl rfl) _) (fun _ h => .inl h)

/-- The late events, grown, stored anew. -/
theorem RefAt.regrowAfter {wr w1 : World} {g : Nat} {C : Cf} {f : M.Fl ByteArray} {pv ov tv av av' : Value} {l : List (M.Ev ByteArray)} (h : RefAt wr g C f pv ov tv av) (hr : RowIs evC w1 0 90 4 av' l) (hg : Grows wr w1 av av') :
    RefAt (w1.setCell ⟨g, 10, none⟩ av') g C { f with after := l } pv ov tv av' ∧ (∀ b, feet g pv ov tv av' b → feet g pv ov tv av b ∨ wr.heap.size ≤ b) ∧ Touch (feet g pv ov tv av) wr (w1.setCell ⟨g, 10, none⟩ av') := by
  have hfar := h.far
  have hgl := lt_of_block h.obj
  have same : ∀ b, b < wr.heap.size → av.ownBlock ≠ some b → w1.heap[b]? = wr.heap[b]? := fun b hb hne => hg.grown.block b hb (fun e => hne e.symm)
  have hgg : ∀ b, av'.ownBlock = some b → b ≠ g ∧ pv.ownBlock ≠ some b ∧ ov.ownBlock ≠ some b ∧ tv.ownBlock ≠ some b := fun b hb => by
    rcases hg.blk b hb with h' | h'
    · exact ⟨hfar b (.inr (.inr (.inr h'))), fun e => (h.pof b e).2.2 h', fun e => (h.oft b e).2 h', fun e => h.tfa b e h'⟩
    · exact ⟨by omega, fun e => by have := (h.parts.lt b e).2; omega, fun e => by have := (h.opn.lt b e).2; omega, fun e => by have := (h.told.lt b e).2; omega⟩
  have hog : av.ownBlock ≠ some g := fun e => hfar g (.inr (.inr (.inr e))) rfl
  refine ⟨⟨?_, ?_, ?_, ?_, ?_, ?_, ?_, ?_, ?_⟩, ?_, ?_⟩
  · exact heap_setCell_same w1 g 10 _ _ _ ((same g hgl hog).trans h.obj)
  · exact row_set_obj (h.parts.agree fun b hb => same b (h.parts.lt b hb).2 ((h.pof b hb).2.2)) (fun b hb => hfar b (.inl hb)) _ _
  · exact row_set_obj (h.opn.agree fun b hb => same b (h.opn.lt b hb).2 ((h.oft b hb).2)) (fun b hb => hfar b (.inr (.inl hb))) _ _
  · exact row_set_obj (h.told.agree fun b hb => same b (h.told.lt b hb).2 (h.tfa b hb)) (fun b hb => hfar b (.inr (.inr (.inl hb)))) _ _
  · exact row_set_obj hr (fun b hb => (hgg b hb).1) _ _
  · intro b hb
    rcases hb with hb | hb | hb | hb
    · exact hfar b (.inl hb)
    · exact hfar b (.inr (.inl hb))
    · exact hfar b (.inr (.inr (.inl hb)))
    · exact (hgg b hb).1
  · intro b hb
    exact ⟨(h.pof b hb).1, (h.pof b hb).2.1, fun e => (hgg b e).2.1 hb⟩
  · intro b hb
    exact ⟨(h.oft b hb).1, fun e => (hgg b e).2.2.1 hb⟩
  · intro b hb e
    exact (hgg b e).2.2.2 hb
  · intro b hb
    rcases hb with hb | hb | hb | hb | hb
    · exact .inl (.inl hb)
    · exact .inl (.inr (.inl hb))
    · exact .inl (.inr (.inr (.inl hb)))
    · exact .inl (.inr (.inr (.inr (.inl hb))))
    · exact (hg.blk b hb).imp (fun h' => .inr (.inr (.inr (.inr h')))) id
  · exact (Touch.grown hg.grown (fun b hb => .inr (.inr (.inr (.inr hb))))).trans (Touch.set (S := feet g pv ov tv av) (.inl rfl) _) (fun _ h => .inl h)

/-! ### What 'take' holds -/
def intC (n : Int) : List Value := [.int .i64 n]
theorem intC_len (n : Int) : (intC n).length = 1 := rfl
theorem intC_map : ∀ l : List Int, l.flatMap intC = l.map (Value.int .i64)
  | [] => rfl
  | x :: l => by rw [List.flatMap_cons, intC_map l]; rfl
theorem int_row {w : World} {B e : Nat} {v : Value} {l : List Int} (h : w.ownsRow B e 1 v l.length (l.map (Value.int .i64))) : RowIs intC w B e 1 v l := by unfold RowIs; rw [intC_map]; exact h
theorem int_at {w : World} {B e : Nat} {v : Value} {l : List Int} (h : RowIs intC w B e 1 v l) {i : Nat} {x : Int} (hx : l[i]? = some x) :
    ∃ g cap, v = .slice (some ⟨g, 0, none⟩) l.length cap ∧ B ≤ g ∧ g < w.heap.size ∧ w.cell? ⟨g, i, none⟩ = some (.int .i64 x) := by
  obtain ⟨g, cap, ev, h1, h2, h3, _⟩ := h.at intC_len hx
  exact ⟨g, cap, ev, h1, h2, by have := h3 0 (by omega); rw [Nat.mul_one, Nat.add_zero] at this; exact this⟩

structure Taking (S : Nat → Prop) (w wr : World) (g : Nat) (C : Cf) (f : M.Fl ByteArray) (e : M.Ev ByteArray) (ws : List Int) (k : Nat) (n : Int) (eb : Nat) (pv ov tv av bv : Value) : Prop where
  ref : RefAt wr g C { f with opn := M.countAll C.size C.fold f.now e.key e.val (ws.take k) f.opn } pv ov tv av
  row : RowIs intC wr 0 3 1 bv ws
  apart : ∀ b, bv.ownBlock = some b → ¬ feet g pv ov tv av b
  box : wr.heap[eb]? = some (.cells #[.int .i64 e.part, .string e.key, .int .i64 e.at_, .int .i64 e.val] 90 (0, 0))
  far : ¬ feet g pv ov tv av eb
  touch : Touch S w wr
  feet : ∀ b, feet g pv ov tv av b → S b ∨ w.heap.size ≤ b
  cnt : n = (((ws.take k).filter fun b => decide (f.now < b + C.size)).length : Nat)

theorem countAll_snoc (size fold now : Int) (key : ByteArray) (v : Int) {ws : List Int} {k : Nat} {b : Int} (h : ws[k]? = some b) (l : List (M.Pn ByteArray)) :
    M.countAll size fold now key v (ws.take (k + 1)) l = (if now < b + size then M.countP size fold b key v (M.countAll size fold now key v (ws.take k) l) else M.countAll size fold now key v (ws.take k) l) := by
  rw [take_snoc' h, M.countAll, List.foldl_append]
  rfl

theorem cnt_snoc {ws : List Int} {k : Nat} {b : Int} (h : ws[k]? = some b) (q : Int → Bool) : ((ws.take (k + 1)).filter q).length = ((ws.take k).filter q).length + (if q b = true then 1 else 0) := by
  rw [take_snoc' h, List.filter_append, List.length_append]
  congr 1
  by_cases hq : q b = true <;> simp [hq]

theorem Taking.hit {S : Nat → Prop} {w wr w1 : World} {g : Nat} {C : Cf} {f : M.Fl ByteArray} {e : M.Ev ByteArray} {ws : List Int} {k : Nat} {n b : Int} {eb : Nat} {pv ov tv av bv ov' : Value} (h : Taking S w wr g C f e ws k n eb pv ov tv av bv) (hb : ws[k]? = some b) (hlt : f.now < b + C.size)
    (hr : RowIs pnC w1 0 101 4 ov' (M.countP C.size C.fold b e.key e.val (M.countAll C.size C.fold f.now e.key e.val (ws.take k) f.opn))) (hg : Grows wr w1 ov ov') : Taking S w (w1.setCell ⟨g, 8, none⟩ ov') g C f e ws (k + 1) (n + 1) eb pv ov' tv av bv := by
  obtain ⟨r1, r2, r3⟩ := h.ref.regrowOpn hr hg
  refine ⟨by rw [countAll_snoc _ _ _ _ _ hb, if_pos hlt]; exact r1, r3.row h.row (fun q hq => h.apart q hq), fun q hq hf => ?_, (r3.block eb (lt_of_block h.box) h.far).trans h.box, fun hf => ?_, h.touch.trans r3 h.feet, fun q hf => ?_, ?_⟩
  · rcases r2 q hf with h' | h'
    · exact h.apart q hq h'
    · have := (h.row.lt q hq).2; omega
  · rcases r2 eb hf with h' | h'
    · exact h.far h'
    · have := lt_of_block h.box; omega
  · rcases r2 q hf with h' | h'
    · exact h.feet q h'
    · exact .inr (Nat.le_trans h.touch.size h')
  · rw [cnt_snoc hb, if_pos (by simpa using hlt), h.cnt]
    rfl

theorem Taking.miss {S : Nat → Prop} {w wr w1 : World} {g : Nat} {C : Cf} {f : M.Fl ByteArray} {e : M.Ev ByteArray} {ws : List Int} {k : Nat} {n b : Int} {eb : Nat} {pv ov tv av bv : Value} (h : Taking S w wr g C f e ws k n eb pv ov tv av bv) (hb : ws[k]? = some b) (hlt : ¬ f.now < b + C.size)
    (he : Below wr.heap.size wr w1) : Taking S w w1 g C f e ws (k + 1) n eb pv ov tv av bv :=
  ⟨by rw [countAll_snoc _ _ _ _ _ hb, if_neg hlt]; exact h.ref.below he, h.row.below he, h.apart, (he.block eb (lt_of_block h.box)).trans h.box, h.far, h.touch.trans (Touch.of_below (S := S) he) (fun _ h => .inl h), h.feet,
    by rw [cnt_snoc hb, if_neg (by simpa using hlt), h.cnt]; rfl⟩

theorem Taking.same {S : Nat → Prop} {w wr w1 : World} {g : Nat} {C : Cf} {f : M.Fl ByteArray} {e : M.Ev ByteArray} {ws : List Int} {k : Nat} {n : Int} {eb : Nat} {pv ov tv av bv : Value} (h : Taking S w wr g C f e ws k n eb pv ov tv av bv)
    (he : Below wr.heap.size wr w1) : Taking S w w1 g C f e ws k n eb pv ov tv av bv :=
  ⟨h.ref.below he, h.row.below he, h.apart, (he.block eb (lt_of_block h.box)).trans h.box, h.far, h.touch.trans (Touch.of_below (S := S) he) (fun _ h => .inl h), h.feet, h.cnt⟩

theorem countP_len {size fold b v : Int} {key : ByteArray} : ∀ (l : List (M.Pn ByteArray)), (M.countP size fold b key v l).length ≤ l.length + 1
  | [] => by simp [M.countP]
  | p :: r => by
    unfold M.countP
    split
    · simp
    · have := countP_len (size := size) (fold := fold) (b := b) (v := v) (key := key) r
      simp; omega
theorem countAll_len {size fold now v : Int} {key : ByteArray} : ∀ (ws : List Int) (l : List (M.Pn ByteArray)), (M.countAll size fold now key v ws l).length ≤ l.length + ws.length
  | [], l => by simp [M.countAll]
  | b :: ws, l => by
    show (M.countAll size fold now key v ws (if now < b + size then M.countP size fold b key v l else l)).length ≤ _
    have h2 := countP_len (size := size) (fold := fold) (b := b) (v := v) (key := key) l
    by_cases hb : now < b + size
    · rw [if_pos hb]
      have h1 := countAll_len (size := size) (fold := fold) (now := now) (v := v) (key := key) ws (M.countP size fold b key v l)
      simp; omega
    · rw [if_neg hb]
      have h1 := countAll_len (size := size) (fold := fold) (now := now) (v := v) (key := key) ws l
      simp; omega
end Go.Proofs.YtnnoaolceeendaaGreatDoor
