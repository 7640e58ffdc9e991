import Derived.Test.YtnnoaolceeendaaGreatDoorRefH
import Derived.Deep.RegionLaw
namespace Go.Proofs.YtnnoaolceeendaaGreatDoor
open Go.ChangeShapes Go.WideShapes Go.ChangeAt Go.RowKit

/-- What the first loop holds: what is over, in order; what is left. -/
structure Parted (m : Int) (l : List (M.Pn ByteArray)) (w wr : World) (k : Nat) (xv lv : Value) : Prop where
  over : RowIs pnC wr w.heap.size 101 4 xv (M.sortP ltK ((l.take k).filter fun p => decide (p.stop ≤ m)))
  left : RowIs pnC wr w.heap.size 101 4 lv ((l.take k).filter fun p => decide (m < p.stop))
  apart : ∀ b, xv.ownBlock = some b → lv.ownBlock ≠ some b
  below : Below w.heap.size w wr

theorem Parted.start (m : Int) (l : List (M.Pn ByteArray)) (w : World) : Parted m l w w 0 (.slice none 0 0) (.slice none 0 0) :=
  ⟨RowIs.nil _ _ _ _ _, RowIs.nil _ _ _ _ _, fun b hb => by simp [Value.ownBlock] at hb, Below.refl _ _⟩

theorem Parted.yes {m : Int} {l : List (M.Pn ByteArray)} {w wr w1 : World} {k : Nat} {xv lv xv' : Value} {x : M.Pn ByteArray} (h : Parted m l w wr k xv lv) (hx : l[k]? = some x) (hle : x.stop ≤ m)
    (hr : RowIs pnC w1 wr.heap.size 101 4 xv' (M.insP ltK x (M.sortP ltK ((l.take k).filter fun p => decide (p.stop ≤ m))))) (hb : Below wr.heap.size wr w1) : Parted m l w w1 (k + 1) xv' lv :=
  ⟨by rw [filter_snoc hx, if_pos (by simpa using hle), sort_snoc]; exact hr.base h.below.size, by rw [filter_snoc hx, if_neg (by simp; omega), List.append_nil]; exact h.left.below hb,
    fun b hb' he => by have h1 := (hr.lt b hb').1; have h2 := (h.left.lt b he).2; omega, h.below.trans (hb.mono h.below.size)⟩

theorem Parted.no {m : Int} {l : List (M.Pn ByteArray)} {w wr w1 : World} {k : Nat} {xv lv : Value} {x : M.Pn ByteArray} {gg n cap : Nat} (h : Parted m l w wr k xv lv) (hx : l[k]? = some x) (hle : ¬ x.stop ≤ m)
    (hr : RowIs pnC w1 w.heap.size 101 4 (.slice (some ⟨gg, 0, none⟩) n cap) (((l.take k).filter fun p => decide (m < p.stop)) ++ [x])) (hg : wr.grownBy w1 lv.ownBlock) (hat : lv.ownBlock = some gg ∨ wr.heap.size ≤ gg) : Parted m l w w1 (k + 1) xv (.slice (some ⟨gg, 0, none⟩) n cap) :=
  ⟨by rw [filter_snoc hx, if_neg (by simpa using hle), List.append_nil]; exact h.over.agree (fun b hb => hg.block b (h.over.lt b hb).2 (fun e => h.apart b hb e.symm)), by rw [filter_snoc hx, if_pos (by simp; omega)]; exact hr,
    fun b hb he => by
      simp only [Value.ownBlock, Option.some.injEq] at he
      subst he
      rcases hat with h' | h'
      · exact h.apart _ hb h'
      · have := (h.over.lt _ hb).2; omega,
    h.below.grown hg h.below.size (fun b hb => (h.left.lt b hb).1)⟩

theorem Parted.len {m : Int} {l : List (M.Pn ByteArray)} {k : Nat} : (M.sortP ltK ((l.take k).filter fun p => decide (p.stop ≤ m))).length ≤ l.length ∧ ((l.take k).filter fun p => decide (m < p.stop)).length ≤ l.length := by
  rw [sortP_len]
  have h1 := List.length_filter_le (fun p : M.Pn ByteArray => decide (p.stop ≤ m)) (l.take k)
  have h2 := List.length_filter_le (fun p : M.Pn ByteArray => decide (m < p.stop)) (l.take k)
  have h3 : (l.take k).length ≤ l.length := List.length_take_le' _ _
  omega

/-- What the second loop holds. -/
structure Telling (S : Nat → Prop) (w wr : World) (g : Nat) (C : Cf) (f : M.Fl ByteArray) (over : List (M.Pn ByteArray)) (k : Nat) (pv ov tv av xv : Value) : Prop where
  ref : RefAt wr g C { f with told := f.told ++ over.take k } pv ov tv av
  row : RowIs pnC wr 0 101 4 xv over
  apart : ∀ b, xv.ownBlock = some b → ¬ feet g pv ov tv av b
  touch : Touch S w wr
  feet : ∀ b, feet g pv ov tv av b → S b ∨ w.heap.size ≤ b

theorem Telling.step {S : Nat → Prop} {w wr w1 : World} {g : Nat} {C : Cf} {f : M.Fl ByteArray} {over : List (M.Pn ByteArray)} {k gg n cap : Nat} {pv ov tv av xv : Value} {x : M.Pn ByteArray} (h : Telling S w wr g C f over k pv ov tv av xv) (hx : over[k]? = some x)
    (hr : RowIs pnC w1 0 101 4 (.slice (some ⟨gg, 0, none⟩) n cap) ((f.told ++ over.take k) ++ [x])) (hg : wr.grownBy w1 tv.ownBlock) (hat : tv.ownBlock = some gg ∨ wr.heap.size ≤ gg) :
    Telling S w (w1.setCell ⟨g, 9, none⟩ (.slice (some ⟨gg, 0, none⟩) n cap)) g C f over (k + 1) pv ov (.slice (some ⟨gg, 0, none⟩) n cap) av xv := by
  have hfar := h.ref.far
  have hgl := lt_of_block h.ref.obj
  have same : ∀ b, b < wr.heap.size → tv.ownBlock ≠ some b → w1.heap[b]? = wr.heap[b]? := fun b hb hne => hg.block b hb (fun e => hne e.symm)
  have hgg : gg ≠ g ∧ pv.ownBlock ≠ some gg ∧ ov.ownBlock ≠ some gg ∧ av.ownBlock ≠ some gg := by
    rcases hat with h' | h'
    · exact ⟨hfar gg (.inr (.inr (.inl h'))), fun e => (h.ref.pof gg e).2.1 h', fun e => (h.ref.oft gg e).1 h', h.ref.tfa gg h'⟩
    · exact ⟨by omega, fun e => by have := (h.ref.parts.lt gg e).2; omega, fun e => by have := (h.ref.opn.lt gg e).2; omega, fun e => by have := (h.ref.after.lt gg e).2; omega⟩
  have htg : tv.ownBlock ≠ some g := fun e => hfar g (.inr (.inr (.inl e))) rfl
  have ht : Touch S w w1 := h.touch.trans (Touch.grown (S := fun b => tv.ownBlock = some b) hg (fun b hb => hb)) (fun b hb => h.feet b (.inr (.inr (.inr (.inl hb)))))
  refine ⟨?_, ?_, ?_, ?_, ?_⟩
  · rw [take_snoc' hx, ← List.append_assoc]
    refine ⟨?_, ?_, ?_, ?_, ?_, ?_, ?_, ?_, ?_⟩
    · exact heap_setCell_same w1 g 9 _ _ _ ((same g hgl htg).trans h.ref.obj)
    · exact row_set_obj (h.ref.parts.agree fun b hb => same b (h.ref.parts.lt b hb).2 ((h.ref.pof b hb).2.1)) (fun b hb => hfar b (.inl hb)) _ _
    · exact row_set_obj (h.ref.opn.agree fun b hb => same b (h.ref.opn.lt b hb).2 ((h.ref.oft b hb).1)) (fun b hb => hfar b (.inr (.inl hb))) _ _
    · exact row_set_obj hr (fun b hb => by simp only [Value.ownBlock, Option.some.injEq] at hb; subst hb; exact hgg.1) _ _
    · exact row_set_obj (h.ref.after.agree fun b hb => same b (h.ref.after.lt b hb).2 (fun e => h.ref.tfa b e hb)) (fun b hb => hfar b (.inr (.inr (.inr hb)))) _ _
    · intro b hb
      rcases hb with hb | hb | hb | hb
      · exact hfar b (.inl hb)
      · exact hfar b (.inr (.inl hb))
      · simp only [Value.ownBlock, Option.some.injEq] at hb; subst hb; exact hgg.1
      · exact hfar b (.inr (.inr (.inr hb)))
    · intro b hb
      exact ⟨(h.ref.pof b hb).1, fun e => by simp only [Value.ownBlock, Option.some.injEq] at e; subst e; exact hgg.2.1 hb, (h.ref.pof b hb).2.2⟩
    · intro b hb
      exact ⟨fun e => by simp only [Value.ownBlock, Option.some.injEq] at e; subst e; exact hgg.2.2.1 hb, (h.ref.oft b hb).2⟩
    · intro b hb
      simp only [Value.ownBlock, Option.some.injEq] at hb; subst hb; exact hgg.2.2.2
  · have hx1 : ∀ b, xv.ownBlock = some b → tv.ownBlock ≠ some b := fun b hb e => h.apart b hb (.inr (.inr (.inr (.inl e))))
    exact row_set_obj (h.row.agree fun b hb => same b (h.row.lt b hb).2 (hx1 b hb)) (fun b hb e => h.apart b hb (.inl e)) _ _
  · intro b hb hf
    rcases hf with hf | hf | hf | hf | hf
    · exact h.apart b hb (.inl hf)
    · exact h.apart b hb (.inr (.inl hf))
    · exact h.apart b hb (.inr (.inr (.inl hf)))
    · simp only [Value.ownBlock, Option.some.injEq] at hf
      subst hf
      rcases hat with h' | h'
      · exact h.apart _ hb (.inr (.inr (.inr (.inl h'))))
      · have := (h.row.lt _ hb).2; omega
    · exact h.apart b hb (.inr (.inr (.inr (.inr hf))))
  · exact ht.trans (Touch.set (S := fun b => b = g) rfl _) (fun b hb => by subst hb; exact h.feet _ (.inl rfl))
  · intro b hf
    rcases hf with hf | hf | hf | hf | hf
    · exact h.feet b (.inl hf)
    · exact h.feet b (.inr (.inl hf))
    · exact h.feet b (.inr (.inr (.inl hf)))
    · simp only [Value.ownBlock, Option.some.injEq] at hf
      subst hf
      rcases hat with h' | h'
      · exact h.feet _ (.inr (.inr (.inr (.inl h'))))
      · exact .inr (Nat.le_trans h.touch.size h')
    · exact h.feet b (.inr (.inr (.inr (.inr hf))))

theorem RefAt.drawn {w w' : World} {g : Nat} {C : Cf} {f : M.Fl ByteArray} {pv ov tv av : Value} (h : RefAt w g C f pv ov tv av) (e : w'.heap = w.heap) : RefAt w' g C f pv ov tv av := h.agree fun _ _ => by rw [e]

set_option maxRecDepth 100000 in
set_option maxHeartbeats 4000000 in
theorem rmove_any (g : Nat) (C : Cf) (f : M.Fl ByteArray) (pv ov tv av : Value) (w : World) (hr : RefAt w g C f pv ov tv av) (b0 : 0 ≤ C.bound) (b1 : C.bound ≤ 1000) (hm : mostOk f.parts) (hl8 : f.parts.length ≤ 8) (hn : f.opn.length ≤ 100000000) (hn2 : f.told.length ≤ 100000000) :
    Calls Tryz.prog 57 #[.pointer (some ⟨g, 0, none⟩)] w fun r w' => r = .returned (.tuple #[]) ∧ RefTo (feet g pv ov tv av) w w' g C (M.moveF ltK C.bound f) := by
  obtain ⟨i0, hi, hz0, hz1, hz2⟩ := info_parts Tryz.infoPn
  obtain ⟨oa, oc, rfl⟩ := hr.opn.slice
  have HR := hideP hr
  have HM := hideP hm
  have hlt := lt_of_block hr.obj
  clear hr hm
  go_enter Tryz.func57, Tryz.ntmps57
  go_wp2_with fail
  refine (rmark_any g C f pv _ tv av _ HR.out b0 b1 HM.out hl8).mono ?_
  rintro r w1 ⟨rfl, hb1⟩
  have R1 := hideP (HR.out.below hb1)
  have c7 := R1.out.cells.2.2.2.2.2.2.2.1
  have f7 := R1.out.frozen 7
  have hs1 := hb1.size
  generalize hmk : M.markOf C.bound f.now f.parts = m
  have HMK := hideP hmk
  clear hmk
  have R2 := hideP (R1.out.setNow m)
  have T2 := hideP (((Touch.of_below hb1).trans (Touch.set (S := feet g pv (.slice oa f.opn.length oc) tv av) (.inl rfl) (.int .i64 m)) (fun _ h => .inl h) : Touch (feet g pv (.slice oa f.opn.length oc) tv av) w (w1.setCell ⟨g, 7, none⟩ (.int .i64 m))))
  have hs2 : w.heap.size ≤ (w1.setCell ⟨g, 7, none⟩ (.int .i64 m)).heap.size := by simpa using hs1
  go_wp2
  generalize w1.setCell ⟨g, 7, none⟩ (.int .i64 m) = w2 at R2 T2 hs2 ⊢
  clear c7 f7 hb1 R1 hs1
  go_loopw [2, 3, 4] (fun xv lv i wr => ∃ k : Nat, k ≤ f.opn.length ∧ i = .int .i64 k ∧ Hid (Parted m f.opn w2 wr k xv lv)) (fun _ _ i _ => f.opn.length - (intOf i).toNat)
  case atStart => exact ⟨0, Nat.zero_le _, rfl, Parted.start _ _ _⟩
  case round =>
    obtain ⟨k, hk, rfl, HP⟩ := hrel
    have R := HP.out.below
    have RR := hideP (R2.out.below R)
    obtain ⟨_, _, _, _, _, _, _, c7, c8, _, _⟩ := RR.out.cells
    simp only at c7
    clear R
    have hlens := Parted.len (m := m) (l := f.opn) (k := k)
    obtain ⟨hl1, hl2⟩ := hlens
    have hbz := HP.out.below.size
    by_cases hlt2 : k < f.opn.length
    · obtain ⟨x, hx⟩ : ∃ x, f.opn[k]? = some x := ⟨_, List.getElem?_eq_getElem hlt2⟩
      have HX := hideP hx
      obtain ⟨ob, cp, ev, _, hob, e0, e1, e2, e3⟩ := pn_at RR.out.opn hx
      simp only [Value.slice.injEq] at ev
      obtain ⟨rfl, _, rfl⟩ := ev
      have i1 : (0 : Int) ≤ (k : Int) := by omega
      have i2 : (k : Int) < (f.opn.length : Int) := by omega
      clear hx
      by_cases hle : x.stop ≤ m
      · go_wp2_with fail
        go_quiet (fail)
        generalize hwq : wr.drewN nq = wq
        have hq : Below wr.heap.size wr wq := by rw [← hwq]; exact ⟨rfl, rfl, rfl, Nat.le_refl _, fun _ _ => rfl⟩
        have q0 := keepAt hq hob e0
        have q1 := keepAt hq hob e1
        have q2 := keepAt hq hob e2
        have q3 := keepAt hq hob e3
        have q8 := keepAt hq (by omega) c8
        have HQ := hideP hq
        clear hwq hq e0 e1 e2 e3 c7 c8
        go_wp2_with (go_at_call 41; refine (rinsert_any x _ _ _ _ (HP.out.over.below HQ.out) (by omega)).mono ?_; rintro r w3 ⟨v3, rfl, hr3, hb3⟩)
        have HP3 := hideP (HP.out.yes HX.out hle (hr3.base HQ.out.size) (HQ.out.trans (hb3.mono HQ.out.size)))
        clear hr3 hb3
        go_roundw
        case rel => exact ⟨k + 1, by omega, by go_num, HP3⟩
        case measure => simp [intOf]; omega
      · go_wp2_with fail
        go_quiet (fail)
        generalize hwq : wr.drewN nq = wq
        have hq : Below wr.heap.size wr wq := by rw [← hwq]; exact ⟨rfl, rfl, rfl, Nat.le_refl _, fun _ _ => rfl⟩
        have q0 := keepAt hq hob e0
        have q1 := keepAt hq hob e1
        have q2 := keepAt hq hob e2
        have q3 := keepAt hq hob e3
        have q8 := keepAt hq (by omega) c8
        have HQ := hideP hq
        have hqz : w2.heap.size ≤ wq.heap.size := Nat.le_trans hbz hq.size
        clear hwq hq e0 e1 e2 e3 c7 c8
        go_wp2_with (at_builtin; refine wpList_push2 _ rfl _ _ 55 rfl w2.heap.size 101 i0 _ 4 40 Tryz.underlying55 hi hz0 hz1 hz2 rfl (by decide) _ _ x rfl (HP.out.left.below HQ.out) _ rfl rfl rfl (pnC_one _) (by omega) (by unfold maxLen; omega) (by omega) ?_; intro gg cp' w3 hr3 hg3 hat3)
        have HP3 := hideP (HP.out.no HX.out (by omega) hr3 ⟨hg3.os.trans HQ.out.os, hg3.tape.trans HQ.out.tape, hg3.output.trans HQ.out.output, Nat.le_trans HQ.out.size hg3.size, fun b hb hne => (hg3.block b (Nat.lt_of_lt_of_le hb HQ.out.size) hne).trans (HQ.out.block b hb)⟩ (hat3.imp id (fun h => Nat.le_trans HQ.out.size h)))
        clear hr3 hg3 hat3
        go_wp2
        go_roundw
        case rel => exact ⟨k + 1, by omega, by go_num, HP3⟩
        case measure => simp [intOf]; omega
    · have ek : k = f.opn.length := by omega
      subst ek
      obtain ⟨over, hover⟩ : ∃ over, over = M.sortP ltK (f.opn.filter fun p => decide (p.stop ≤ m)) := ⟨_, rfl⟩
      obtain ⟨left, hleft⟩ : ∃ left, left = f.opn.filter fun p => decide (m < p.stop) := ⟨_, rfl⟩
      have P1 := HP.out.over
      have P2 := HP.out.left
      have P3 := HP.out.apart
      rw [List.take_length, ← hover] at P1
      rw [List.take_length, ← hleft] at P2
      rw [List.take_length, ← hover] at hl1
      have hfeet : ∀ b, feet g pv (.slice oa f.opn.length oc) tv av b → b < w2.heap.size := fun b hb => R2.out.feet_lt hb
      have R3 := hideP (RR.out.setOpn (P2.base (Nat.zero_le _)) (fun b hb => by
        have := (P2.lt b hb).1
        refine ⟨fun e => ?_, fun e => ?_, fun e => ?_, fun e => ?_⟩
        · have := hfeet g (.inl rfl); omega
        · have := hfeet b (.inr (.inl e)); omega
        · have := hfeet b (.inr (.inr (.inr (.inl e)))); omega
        · have := hfeet b (.inr (.inr (.inr (.inr e)))); omega))
      obtain ⟨xa, xc, exv⟩ := P1.slice
      subst exv
      obtain ⟨la, lc, elv⟩ := P2.slice
      subst elv
      have f8 := RR.out.frozen 8
      have T3 : Hid (Telling (feet g pv (.slice oa f.opn.length oc) tv av) w (wr.setCell ⟨g, 8, none⟩ (.slice la left.length lc)) g C { f with now := m, opn := left } over 0 pv (.slice la left.length lc) tv av (.slice xa over.length xc)) := by
        refine ⟨by simpa using R3.out, row_set_obj (P1.base (Nat.zero_le _)) (fun b hb e => ?_) _ _, fun b hb hf => ?_, ?_, fun b hf => ?_⟩
        · subst e; have := (P1.lt _ hb).1; have := hfeet b (.inl rfl); omega
        · have h1 := (P1.lt b hb).1
          rcases hf with hf | hf | hf | hf | hf
          · have := hfeet b (.inl hf); omega
          · have := hfeet b (.inr (.inl hf)); omega
          · exact P3 b hb hf
          · have := hfeet b (.inr (.inr (.inr (.inl hf)))); omega
          · have := hfeet b (.inr (.inr (.inr (.inr hf)))); omega
        · exact (T2.out.trans (Touch.of_below HP.out.below) (fun _ h => .inl h)).trans (Touch.set (S := feet g pv (.slice oa f.opn.length oc) tv av) (.inl rfl) _) (fun _ h => .inl h)
        · rcases hf with hf | hf | hf | hf | hf
          · exact .inl (.inl hf)
          · exact .inl (.inr (.inl hf))
          · have := (P2.lt b hf).1; exact .inr (by omega)
          · exact .inl (.inr (.inr (.inr (.inl hf))))
          · exact .inl (.inr (.inr (.inr (.inr hf))))
      have HO := hideP hover
      have HLf := hideP hleft
      clear hover hleft P1 P2 P3 hfeet R3
      go_wp2
      generalize wr.setCell ⟨g, 8, none⟩ (.slice la left.length lc) = w4 at T3 ⊢
      clear c7 c8 f8
      go_loopw [5] (fun i wq => ∃ (j : Nat) (tv' : Value), j ≤ over.length ∧ i = .int .i64 j ∧ Hid (Telling (feet g pv (.slice oa f.opn.length oc) tv av) w wq g C { f with now := m, opn := left } over j pv (.slice la left.length lc) tv' av (.slice xa over.length xc))) (fun i _ => over.length - (intOf i).toNat)
      case atStart => exact ⟨0, tv, Nat.zero_le _, rfl, T3⟩
      case round =>
        obtain ⟨j, tv', hj, rfl, HT⟩ := hrel
        by_cases hlt3 : j < over.length
        · obtain ⟨x, hx⟩ : ∃ x, over[j]? = some x := ⟨_, List.getElem?_eq_getElem hlt3⟩
          have HX := hideP hx
          obtain ⟨ob, cp, ev, _, hob, e0, e1, e2, e3⟩ := pn_at HT.out.row hx
          simp only [Value.slice.injEq] at ev
          obtain ⟨rfl, _, rfl⟩ := ev
          obtain ⟨_, _, _, _, _, _, _, _, _, c9, _⟩ := HT.out.ref.cells
          have f9 := HT.out.ref.frozen 9
          have hgl := lt_of_block HT.out.ref.obj
          have htold := hideP HT.out.ref.told
          have i1 : (0 : Int) ≤ (j : Int) := by omega
          have i2 : (j : Int) < (over.length : Int) := by omega
          have hnt : tv'.ownBlock ≠ some g := fun e => HT.out.ref.far g (.inr (.inr (.inl e))) rfl
          have hlen : (f.told ++ over.take j).length ≤ 200000000 := by
            have : (over.take j).length ≤ over.length := List.length_take_le' _ _
            simp only [List.length_append]
            omega
          have hlj : Hid ((f.told ++ over.take j).length = f.told.length + j) := by
            show _ = _
            rw [List.length_append, List.length_take, Nat.min_eq_left hj]
          clear hx
          go_wp2_with fail
          go_region_law ((refine step_append_lies _ (by rfl) _ _ _ (by rfl) 0 101 i0 _ 4 40 Tryz.underlying55 hi hz0 hz1 hz2 rfl (by omega) tv' _ _ (by rfl) ((World.ownsRow.alloc htold.out _).drew) ⟨wr.heap.size, 0, none⟩ 1 1 (pnC x) (by rfl) (by rfl) (World.news_of_block (cs := #[.int .i64 x.start, .int .i64 x.stop, .string x.key, .int .i64 x.n]) (t := 101) (fr := (0, 0)) (heap_alloc_new wr _)) (pnC_one _) (by omega) (by unfold maxLen; omega) (by omega) (by simp) (wr.heap.size + 1) (by simp) ?_; intro gg cp' w5 hown5 hg5 hat5 hlt5; have c9' : w5.cell? ⟨g, 9, none⟩ = some tv' := (hg5.cell_far ⟨g, 9, none⟩ (by simp; omega) (Ne.symm hnt)).trans (keepAt ((Below.refl _ wr).alloc (Nat.le_refl _) _) hgl c9); have f9' : w5.frozen? ⟨g, 9, none⟩ = false := (hg5.frozen_far ⟨g, 9, none⟩ (by simp; omega) (Ne.symm hnt)).trans ((((Below.refl _ wr).alloc (Nat.le_refl _) _).frozen (p := ⟨g, 9, none⟩) hgl).trans f9)))
          all_goals
            have hr5 : RowIs pnC w5 0 101 4 (.slice (some ⟨gg, 0, none⟩) (f.told.length + j + 1) cp') ((f.told ++ over.take j) ++ [x]) := by
              unfold RowIs
              have h := hown5
              rw [hlj.out] at h
              simp only [List.flatMap_append, List.flatMap_cons, List.flatMap_nil, List.append_nil, List.length_append, List.length_cons, List.length_nil, List.length_take, Nat.min_eq_left hj] at h ⊢
              exact h
            have hg6 : wr.grownBy w5 tv'.ownBlock := ⟨hg5.os, hg5.tape, hg5.output, Nat.le_trans (by simp) hg5.size, fun b hb hne => (hg5.block b (by simp; omega) hne).trans (Below.heap_alloc wr _ b hb)⟩
            have HT5 := hideP (HT.out.step HX.out hr5 hg6 (hat5.imp id (fun h => by omega)))
            clear hr5 hg6 hown5 hg5 hat5
            go_wp2
            go_roundw
            case rel => exact ⟨j + 1, _, by omega, by go_num, HT5⟩
            case measure => simp [intOf]; omega
        · have ej : j = over.length := by omega
          subst ej
          go_wp2
          go_end0
          refine ⟨rfl, _, _, _, _, ?_, HT.out.touch, HT.out.feet⟩
          have := HT.out.ref
          rw [List.take_length] at this
          simp only [M.moveF, M.tellF, HMK.out, ← HO.out, ← HLf.out]
          exact this
end Go.Proofs.YtnnoaolceeendaaGreatDoor
