import Derived.Test.YtnnoaolceeendaaGreatDoorFlwG
import Derived.Lib.SliceRun
namespace Go.Proofs.YtnnoaolceeendaaGreatDoor
open Go.ChangeShapes Go.WideShapes Go.ChangeAt Go.RowKit

section
variable {g n : Nat} {s : FS}
theorem foot_slot {l d : Nat} {v' : Value} {SL' : Nat → Nat → List Int} (hl : l < 16) (hd : d < 16) (hv : ∀ k, v'.ownBlock = some k → (s.sv l d).ownBlock = some k ∨ n ≤ k) : ∀ k, foot g { s with sv := upd s.sv l d v', SL := SL' } k → foot g s k ∨ n ≤ k := by
  rintro k (hk | hk | hk | ⟨x, hk⟩ | ⟨a, b, ha, hb, hk⟩ | hk | hk)
  · exact .inl (.inl hk)
  · exact .inl (.inr (.inl hk))
  · exact .inl (.inr (.inr (.inl hk)))
  · exact .inl (.inr (.inr (.inr (.inl ⟨x, hk⟩))))
  · by_cases ex : a = l ∧ b = d
    · obtain ⟨rfl, rfl⟩ := ex
      simp only [upd_same] at hk
      rcases hv k hk with hk | hk
      · exact .inl (.inr (.inr (.inr (.inr (.inl ⟨a, b, ha, hb, hk⟩)))))
      · exact .inr hk
    · simp only [upd_other _ _ ex] at hk
      exact .inl (.inr (.inr (.inr (.inr (.inl ⟨a, b, ha, hb, hk⟩)))))
  · exact .inl (.inr (.inr (.inr (.inr (.inr (.inl hk))))))
  · exact .inl (.inr (.inr (.inr (.inr (.inr (.inr hk))))))
theorem foot_told {v' : Value} {l : List (M.Pn ByteArray)} {e : Int} (hv : ∀ k, v'.ownBlock = some k → s.tv.ownBlock = some k ∨ n ≤ k) : ∀ k, foot g { s with tv := v', told := l, TM := delM s.TM e } k → foot g s k ∨ n ≤ k := by
  rintro k (hk | hk | hk | ⟨x, hk⟩ | hk | hk | hk)
  · exact .inl (.inl hk)
  · exact .inl (.inr (.inl hk))
  · exact .inl (.inr (.inr (.inl hk)))
  · simp only [delM] at hk
    split at hk
    · cases hk
    · exact .inl (.inr (.inr (.inr (.inl ⟨x, hk⟩))))
  · exact .inl (.inr (.inr (.inr (.inr (.inl hk)))))
  · rcases hv k hk with hk | hk
    · exact .inl (.inr (.inr (.inr (.inr (.inr (.inl hk))))))
    · exact .inr hk
  · exact .inl (.inr (.inr (.inr (.inr (.inr (.inr hk))))))
end

/-! ### Slots cleared -/
def clr {α : Type} (f : Nat → Nat → α) (lev a k : Nat) (v : α) : Nat → Nat → α := fun l d => if l = lev ∧ a ≤ d ∧ d < a + k then v else f l d
theorem clr_succ {α : Type} (f : Nat → Nat → α) (lev a k : Nat) (v : α) : clr f lev a (k + 1) v = clr (upd f lev a v) lev (a + 1) k v := by
  funext l d
  unfold clr upd
  by_cases h1 : l = lev ∧ a ≤ d ∧ d < a + (k + 1)
  · rw [if_pos h1]
    by_cases h2 : d = a
    · rw [if_neg (by omega), if_pos ⟨h1.1, h2⟩]
    · rw [if_pos (by omega)]
  · rw [if_neg h1]
    rw [if_neg (by omega), if_neg (by omega)]
theorem clr_zero {α : Type} (f : Nat → Nat → α) (lev a : Nat) (v : α) : clr f lev a 0 v = f := by
  funext l d
  unfold clr
  rw [if_neg (by omega)]

theorem FlowIs.clears {g lev : Nat} (hl : lev < 16) : ∀ (k a : Nat) (s : FS) (w : World), FlowIs w g s → a + k ≤ 16 →
    FlowIs (w.setCells g (9 + lev * 16 + a) (List.replicate k (.slice none 0 0))) g { s with sv := clr s.sv lev a k (.slice none 0 0), SL := clr s.SL lev a k [] } ∧ Touch (fun x => x = g) w (w.setCells g (9 + lev * 16 + a) (List.replicate k (.slice none 0 0)))
  | 0, a, s, w, h, _ => by
    rw [clr_zero, clr_zero]
    exact ⟨h, Touch.refl _ _⟩
  | k + 1, a, s, w, h, hk => by
    have h1 := h.slotted (w' := w) (l := lev) (d := a) hl (by omega) (v' := .slice none 0 0) (es := []) (RowIs.nil _ _ _ _ _) (Touch.refl _ _) (fun x hx => by cases hx)
    have ih := FlowIs.clears (g := g) hl k (a + 1) _ _ h1.1 (by omega)
    rw [clr_succ, clr_succ, List.replicate_succ]
    refine ⟨ih.1, (Touch.set (S := fun x => x = g) (a := ⟨g, 9 + lev * 16 + a, none⟩) rfl _).trans ih.2 (fun _ h => .inl h)⟩

theorem zeroSl (w : World) : (zeroValue 40).run Tryz.prog w = .ok (.slice none 0 0) w := by kernel_rfl

/-- 'clear(slots)'. -/
theorem wpList_clear (w : World) {ops : Array Oper} {rest : List Oper} {o : Oper} {a : Act} {Q : Exit → Act → World → Prop} (hg : o.guard = none) (m : Operand) (hop : o.op = Op.call { callee := Callee.builtin Builtin.clear, args := #[m], argTypes := #[180] }) (g ad k cap : Nat) (hk : 0 < k) (hm : a.eval m = .slice (some ⟨g, ad, none⟩) k cap)
    (hc : ∀ j, j < k → (w.cell? ⟨g, ad + j, none⟩).isSome = true) (hf : ∀ j, j < k → w.frozen? ⟨g, ad + j, none⟩ = false)
    (hK : wpList Tryz.prog ops Q rest (a.put o.dst (.tuple #[])) (w.setCells g ad (List.replicate k (.slice none 0 0)))) : wpList Tryz.prog ops Q (o :: rest) a w := by
  refine wpList_plain hg fun K' hK' => ?_
  have hrun := Lib.run_clear_slice (P := Tryz.prog) w 180 40 o.type (.slice none 0 0) Tryz.underlying180 zeroSl rfl rfl g ad k cap hk hc hf
  unfold Oper.wp
  simp [execOp, hop, resolve, invoke, builtin, hm, hrun, Result.andThen]
  exact hK' _ _ hK

/-! ### A drain -/
def drL (s0 : FS) (lev a k : Nat) : List Int := (List.range' a k).flatMap fun d => sortI (s0.SL lev d)
theorem drL_succ (s0 : FS) (lev a k : Nat) : drL s0 lev a (k + 1) = drL s0 lev a k ++ sortI (s0.SL lev (a + k)) := by
  unfold drL
  rw [List.range'_concat]
  simp [List.flatMap_append]

structure DrainOk (s0 : FS) (lev a k : Nat) : Prop where
  m : Wh.IsT s0.m
  time : ∀ e ∈ drL s0 lev a k, Wh.IsT e
  off : ∀ e ∈ drL s0 lev a k, s0.m < e → Wh.levF (Wh.rk s0.m) (Wh.rk e) ≠ lev
  over : ∀ e ∈ drL s0 lev a k, e ≤ s0.m → (∃ b, s0.TM e = some b) ∧ fits (e - s0.C.size) ∧ ∃ key, (s0.GM e key).isSome = true
  nodup : (drL s0 lev a k).Nodup
  lens : ∀ l d, l < 16 → d < 16 → (s0.SL l d).length + (drL s0 lev a k).length ≤ 100000000
  told : s0.told.length + (tld s0.GM s0.C.size s0.m (drL s0 lev a k)).length ≤ 100000000
  kk : ∃ kk : List ByteArray, kk.length ≤ 100000000 ∧ ∀ e k, (s0.GM e k).isSome = true → k ∈ kk

/-- What the drain's loops hold: the slots ahead of a + i gone through, and of the next one the first j. -/
structure DrI (w wr : World) (g : Nat) (s0 s : FS) (lev a i j : Nat) (es : List Int) : Prop where
  way : Way w wr g s0 s
  drn : Drn s0.m lev s0 s (drL s0 lev a i ++ es.take j)
  rest : ∀ d, a + i < d → s.SL lev d = s0.SL lev d
  front : ∀ d, d < a → s.SL lev d = s0.SL lev d
  here : s.SL lev (a + i) = es

structure DrO (w wr : World) (g : Nat) (s0 s : FS) (lev a i : Nat) : Prop where
  way : Way w wr g s0 s
  drn : Drn s0.m lev s0 s (drL s0 lev a i)
  rest : ∀ d, a + i ≤ d → s.SL lev d = s0.SL lev d
  front : ∀ d, d < a → s.SL lev d = s0.SL lev d

theorem DrO.start {w : World} {g : Nat} {s0 : FS} (h : FlowIs w g s0) (lev a : Nat) : DrO w w g s0 s0 lev a 0 := ⟨Way.start h, Drn.start _ _ _, fun _ _ => rfl, fun _ _ => rfl⟩

theorem DrI.done {w wr : World} {g : Nat} {s0 s : FS} {lev a i j : Nat} {es : List Int} (h : DrI w wr g s0 s lev a i j es) (he : es = sortI (s0.SL lev (a + i))) (hj : j = es.length) : DrO w wr g s0 s lev a (i + 1) := by
  refine ⟨h.way, ?_, fun d hd => h.rest d (by omega), h.front⟩
  have := h.drn
  rw [hj, List.take_length, he] at this
  rw [drL_succ]
  exact this

/-- Where the drain is, the row of the slot at hand is as it was: the list put in order. -/
theorem DrO.sorted {w wr w1 : World} {g : Nat} {s0 s : FS} {lev a i : Nat} (h : DrO w wr g s0 s lev a i) (hl : lev < 16) (hd : a + i < 16) (hf : FlowIs w1 g { s with SL := upd s.SL lev (a + i) (sortI (s.SL lev (a + i))) }) (ht : Touch (fun k => (s.sv lev (a + i)).ownBlock = some k) wr w1) :
    DrI w w1 g s0 { s with SL := upd s.SL lev (a + i) (sortI (s.SL lev (a + i))) } lev a i 0 (sortI (s0.SL lev (a + i))) := by
  refine ⟨h.way.next hf ht (fun k hk => .inr (.inr (.inr (.inr (.inl ⟨lev, a + i, hl, hd, hk⟩))))) (fun k hk => .inl hk), ?_, fun d hd' => ?_, fun d hd' => ?_, ?_⟩
  · rw [List.take_zero, List.append_nil]
    have := h.drn
    refine ⟨this.C, this.pv, this.ps, this.m, this.bt, this.GM, this.av, this.after, this.TM, this.told, fun l d hne => ?_, this.sv⟩
    show upd s.SL lev (a + i) _ l d = _
    rw [upd_other _ _ (fun hx => hne hx.1)]
    exact this.SL l d hne
  · show upd s.SL lev (a + i) _ lev d = _
    rw [upd_other _ _ (by omega)]
    exact h.rest d (by omega)
  · show upd s.SL lev (a + i) _ lev d = _
    rw [upd_other _ _ (by omega)]
    exact h.front d hd'
  · show upd s.SL lev (a + i) _ lev (a + i) = _
    rw [upd_same, h.rest (a + i) (Nat.le_refl _)]

theorem DrI.place {w wr w1 : World} {g : Nat} {s0 s : FS} {lev a i j l d : Nat} {es : List Int} {e : Int} {v' : Value} (h : DrI w wr g s0 s lev a i j es) (hj : es[j]? = some e) (ht : s0.m < e) (hl : Wh.levF (Wh.rk s0.m) (Wh.rk e) = l) (hd : Wh.dig l (Wh.rk e) = d) (hlev : l ≠ lev) (hl16 : l < 16) (hd16 : d < 16)
    (hf : FlowIs w1 g { s with sv := upd s.sv l d v', SL := upd s.SL l d (s.SL l d ++ [e]) }) (hto : Touch (fun k => k = g ∨ (s.sv l d).ownBlock = some k) wr w1) (hv : ∀ k, v'.ownBlock = some k → (s.sv l d).ownBlock = some k ∨ wr.heap.size ≤ k) :
    DrI w w1 g s0 { s with sv := upd s.sv l d v', SL := upd s.SL l d (s.SL l d ++ [e]) } lev a i (j + 1) es := by
  refine ⟨h.way.next hf hto (fun k hk => ?_) (foot_slot hl16 hd16 hv), ?_, fun b hb => ?_, fun b hb => ?_, ?_⟩
  · rcases hk with hk | hk
    · exact .inl hk
    · exact .inr (.inr (.inr (.inr (.inl ⟨l, d, hl16, hd16, hk⟩))))
  · rw [take_snoc' hj, ← List.append_assoc]
    exact h.drn.place ht hl hd hlev v'
  · show upd s.SL l d _ lev b = _
    rw [upd_other _ _ (fun hx => hlev hx.1.symm)]
    exact h.rest b hb
  · show upd s.SL l d _ lev b = _
    rw [upd_other _ _ (fun hx => hlev hx.1.symm)]
    exact h.front b hb
  · show upd s.SL l d _ lev (a + i) = _
    rw [upd_other _ _ (fun hx => hlev hx.1.symm)]
    exact h.here

theorem DrI.tell {w wr w1 w2 : World} {g : Nat} {s0 s : FS} {lev a i j : Nat} {es : List Int} {e : Int} {v' : Value} {ks : List ByteArray} (h : DrI w wr g s0 s lev a i j es) (hj : es[j]? = some e) (ht : e ≤ s0.m) (hk : KeysAre (s.GM e) ks)
    (hto : Touch (fun k => k = g ∨ s.tv.ownBlock = some k) wr w1) (hv : ∀ k, v'.ownBlock = some k → s.tv.ownBlock = some k ∨ wr.heap.size ≤ k)
    (hf : FlowIs w2 g { s with tv := v', told := s.told ++ ks.map (paneOf (s.GM e) (e - s.C.size) e), TM := delM s.TM e }) (hto2 : Touch (fun k => k = s.bt) w1 w2) :
    DrI w w2 g s0 { s with tv := v', told := s.told ++ ks.map (paneOf (s.GM e) (e - s.C.size) e), TM := delM s.TM e } lev a i (j + 1) es := by
  have hto3 : Touch (fun k => k = g ∨ s.tv.ownBlock = some k ∨ k = s.bt) wr w2 := (hto.mono (fun k hk => hk.elim .inl (fun h => .inr (.inl h)))).trans hto2 (fun k hk => .inl (.inr (.inr hk)))
  refine ⟨h.way.next hf hto3 (fun k hk => ?_) (foot_told hv), ?_, h.rest, h.front, h.here⟩
  · rcases hk with hk | hk | hk
    · exact .inl hk
    · exact .inr (.inr (.inr (.inr (.inr (.inl hk)))))
    · exact .inr (.inr (.inl hk))
  · rw [take_snoc' hj, ← List.append_assoc]
    exact h.drn.tell ht hk v'
end Go.Proofs.YtnnoaolceeendaaGreatDoor
