import Derived.Test.YtgepipnbfgdjkaaGreatDoorFlwM
namespace Go.Proofs.YtgepipnbfgdjkaaGreatDoor
open Go.ChangeShapes Go.WideShapes Go.ChangeAt Go.RowKit

section
variable {s0 s s' : FS} {f : M.Fl ByteArray} {t : Int} {top a k : Nat}

theorem Turn.tm (h : FRel s0 f) (T : Turn s0 t top a k) (L : Low s0 s t top) (D : Drained s s' top a k) (e : Int) : (s'.TM e).isSome = true ↔ (s0.TM e).isSome = true ∧ t < e := by
  obtain ⟨h1, h2, h3, h4, h5, h6, h7⟩ := T.more h
  have hd : drL s top a k = drL s0 top a k := L.same (Nat.le_refl _) h6
  rw [D.TM, L.m, L.TM, gone_gone, hd]
  have hE := (T.ends h).2 e
  unfold endsL at hE
  rw [List.mem_filter] at hE
  unfold gone
  constructor
  · intro hx
    split at hx
    · cases hx
    · rename_i hc
      refine ⟨hx, ?_⟩
      rcases Int.lt_or_le t e with h8 | h8
      · exact h8
      · have := hE.2 ⟨hx, h8⟩
        exact absurd ⟨this.1, h8⟩ hc
  · rintro ⟨h8, h9⟩
    rw [if_neg (by omega)]
    exact h8

/-- The slots behind a turn. -/
theorem Turn.slots (h : FRel s0 f) (T : Turn s0 t top a k) (L : Low s0 s t top) (D : Drained s s' top a k) {l d : Nat} (hd16 : d < 16) :
    s'.SL l d = (if l < top ∨ (l = top ∧ a ≤ d ∧ d ≤ Wh.dig top (Wh.rk t)) then [] else s0.SL l d) ++ ((drL s0 top a k).filter fun e => decide (t < e)).filter (atLD t l d) := by
  obtain ⟨h1, h2, h3, h4, h5, h6, h7⟩ := T.more h
  have hk := T.hK
  have hd : drL s top a k = drL s0 top a k := L.same (Nat.le_refl _) h6
  by_cases hl : l = top
  · subst hl
    have hnil : ((drL s0 l a k).filter fun e => decide (t < e)).filter (atLD t l d) = [] := List.filter_eq_nil_iff.2 fun e he hx => by
      have he' := List.mem_filter.1 he
      have := (T.beyond h he'.1 (by simpa using he'.2)).2.2
      simp only [atLD, Bool.and_eq_true, decide_eq_true_eq] at hx
      omega
    rw [hnil, List.append_nil]
    by_cases hc : a ≤ d ∧ d ≤ Wh.dig l (Wh.rk t)
    · rw [if_pos (.inr ⟨rfl, hc⟩), D.clean d hc.1 (by omega)]
    · rw [if_neg (by omega), D.rest d (by omega), L.SL l d hd16, if_neg (by omega)]
  · rw [D.SL l d hl, hd, L.m, plc_at, L.SL l d hd16]
    congr 1
    by_cases h8 : l < top
    · rw [if_pos h8, if_pos (.inl h8)]
    · rw [if_neg h8, if_neg (by omega)]

theorem Turn.wheel (h : FRel s0 f) (T : Turn s0 t top a k) (L : Low s0 s t top) (D : Drained s s' top a k) : Wh.Wheel 16 (Wh.rk t) (fun x => ∃ e, (s'.TM e).isSome = true ∧ Wh.rk e = x) (fun l d => (s'.SL l d).map Wh.rk) := by
  obtain ⟨h1, h2, h3, h4, h5, h6, h7⟩ := T.more h
  have hR := Wh.turn_rest h.wheel h1 h2 h3
  have hE' : ∀ x, (∃ e, (s'.TM e).isSome = true ∧ Wh.rk e = x) ↔ (∃ e, (s0.TM e).isSome = true ∧ Wh.rk e = x) ∧ Wh.rk t < x := fun x => by
    constructor
    · rintro ⟨e, h8, rfl⟩
      obtain ⟨h9, h10⟩ := (T.tm h L D e).1 h8
      exact ⟨⟨e, h9, rfl⟩, (Wh.rk_lt T.tT (h.tmT h9)).2 h10⟩
    · rintro ⟨⟨e, h8, rfl⟩, h9⟩
      exact ⟨e, (T.tm h L D e).2 ⟨h8, (Wh.rk_lt T.tT (h.tmT h8)).1 h9⟩, rfl⟩
  -- what was laid down anew
  have hP : ∀ {l d : Nat} {x : Nat}, x ∈ ((((drL s0 top a k).filter fun e => decide (t < e)).filter (atLD t l d)).map Wh.rk) ↔ ((∃ e, (s0.TM e).isSome = true ∧ Wh.rk e = x) ∧ Wh.rk t < x ∧ (Wh.LevIs top (Wh.rk s0.m) x ∧ Wh.dig top x = Wh.dig top (Wh.rk t))) ∧ Wh.LevIs l (Wh.rk t) x ∧ Wh.dig l x = d := fun {l d x} => by
    constructor
    · intro hx
      obtain ⟨e, he, rfl⟩ := List.mem_map.1 hx
      obtain ⟨he1, he2⟩ := List.mem_filter.1 he
      obtain ⟨he3, he4⟩ := List.mem_filter.1 he1
      simp only [decide_eq_true_eq] at he4
      simp only [atLD, Bool.and_eq_true, decide_eq_true_eq] at he2
      have h8 := ((h.drMem h3 h6).1 he3).1
      obtain ⟨h9, h10, -⟩ := T.beyond h he3 he4
      have hlt := (Wh.rk_lt T.tT (h.tmT h8)).2 he4
      refine ⟨⟨⟨e, h8, rfl⟩, hlt, h9, h10⟩, ?_, he2.2⟩
      rw [← he2.1]
      exact Wh.levF_is (by omega)
    · rintro ⟨⟨⟨e, h8, rfl⟩, h9, h10, h11⟩, h12, h13⟩
      have hte := (Wh.rk_lt T.tT (h.tmT h8)).1 h9
      have hk := T.hK
      refine List.mem_map.2 ⟨e, List.mem_filter.2 ⟨List.mem_filter.2 ⟨(h.drMem h3 h6).2 ⟨h8, h10, by omega, by omega⟩, by simpa using hte⟩, ?_⟩, rfl⟩
      simp only [atLD, Bool.and_eq_true, decide_eq_true_eq]
      exact ⟨(Wh.levF_is (by omega)).uniq h12, h13⟩
  have hC : ∀ {l d : Nat}, (if l < top ∨ (l = top ∧ a ≤ d ∧ d ≤ Wh.dig top (Wh.rk t)) then [] else s0.SL l d).map Wh.rk = Wh.cleared (fun l d => (s0.SL l d).map Wh.rk) top (Wh.dig top (Wh.rk s0.m)) (Wh.dig top (Wh.rk t)) l d := fun {l d} => by
    unfold Wh.cleared
    rw [T.hA]
    split <;> rfl
  refine ⟨fun x hx => ((hE' x).1 hx).2, fun x hx => ?_, fun l d x hl hd => ?_, fun l d hl hd => ?_⟩
  · obtain ⟨⟨e, h8, rfl⟩, -⟩ := (hE' x).1 hx
    rw [Nat.div_eq_of_lt (Wh.rk_bd T.tT), Nat.div_eq_of_lt (Wh.rk_bd (h.tmT h8))]
  · rw [T.slots h L D hd, List.map_append, List.mem_append, hC, hR.mem l d x hl hd, hP, hE']
    constructor
    · rintro (⟨⟨h8, h9, -⟩, h10, h11⟩ | ⟨⟨h8, h9, -⟩, h10, h11⟩)
      · exact ⟨⟨h8, h9⟩, h10, h11⟩
      · exact ⟨⟨h8, h9⟩, h10, h11⟩
    · rintro ⟨⟨h8, h9⟩, h10, h11⟩
      by_cases hc : Wh.LevIs top (Wh.rk s0.m) x ∧ Wh.dig top x = Wh.dig top (Wh.rk t)
      · exact .inr ⟨⟨h8, h9, hc⟩, h10, h11⟩
      · exact .inl ⟨⟨h8, h9, hc⟩, h10, h11⟩
  · rw [T.slots h L D hd, List.map_append, hC]
    refine List.nodup_append.2 ⟨hR.nodup l d hl hd, ?_, fun x hx y hy hxy => ?_⟩
    · have hn := ((h.drNodup h3 h6).filter (fun e => decide (t < e))).filter (atLD t l d)
      refine List.pairwise_map.2 (hn.imp_of_mem fun {x y} hx hy hxy e => hxy ?_)
      have hx1 := ((h.drMem h3 h6).1 (List.mem_filter.1 (List.mem_filter.1 hx).1).1).1
      have hy1 := ((h.drMem h3 h6).1 (List.mem_filter.1 (List.mem_filter.1 hy).1).1).1
      exact Wh.rk_inj (h.tmT hx1) (h.tmT hy1) e
    · subst hxy
      exact ((hR.mem l d x hl hd).1 hx).1.2.2 (hP.1 hy).1.2.2

/-- The flow behind a turn. -/
theorem Turn.done (h : FRel s0 f) (T : Turn s0 t top a k) (B : TurnB s0 f) (L : Low s0 s t top) (D : Drained s s' top a k) : FRel { s' with GM := onlyGM s'.TM s'.GM } (M.tellF ltK t f) := by
  obtain ⟨h1, h2, h3, h4, h5, h6, h7⟩ := T.more h
  have hd : drL s top a k = drL s0 top a k := L.same (Nat.le_refl _) h6
  have htm := fun e => T.tm h L D e
  have hC : s'.C = s0.C := D.C.trans L.C
  have hGM : s'.GM = s0.GM := D.GM.trans L.GM
  have hm : s'.m = t := D.m.trans L.m
  have hnow : f.now < t := by rw [← h.now]; exact T.lt
  refine ⟨hm, ?_, ?_, ?_, fun e key n => ?_, fun e => ?_, fun p hp => ?_, fun l d e hl hd' he => ?_, ?_, ?_, fun i q p hq hp => ?_⟩
  · show s'.told = f.told ++ M.sortP ltK (f.opn.filter fun p => decide (p.stop ≤ t))
    rw [D.told, L.told, L.GM, L.C, L.m, hd, List.append_assoc, ← tld_append, T.told h B.keys, h.told]
  · show s'.after = f.after
    rw [D.after, L.after, h.after]
  · show M.Inv ltK s'.C.size _
    rw [hC]
    exact (M.tell_inv soK h.inv (by omega) T.tT.2).1
  · show onlyGM s'.TM s'.GM e key = some n ↔ ∃ p ∈ f.opn.filter (fun p => decide (t < p.stop)), p.stop = e ∧ p.key = key ∧ p.n = n
    unfold onlyGM
    rw [hGM]
    constructor
    · intro hx
      split at hx
      · rename_i hs
        obtain ⟨p, hp, e1, e2, e3⟩ := (h.opn e key n).1 hx
        exact ⟨p, List.mem_filter.2 ⟨hp, by rw [e1]; simpa using ((htm e).1 hs).2⟩, e1, e2, e3⟩
      · cases hx
    · rintro ⟨p, hp, e1, e2, e3⟩
      obtain ⟨hp1, hp2⟩ := List.mem_filter.1 hp
      rw [if_pos ((htm e).2 ⟨(h.tm e).2 ⟨p, hp1, e1⟩, by rw [← e1]; simpa using hp2⟩)]
      exact (h.opn e key n).2 ⟨p, hp1, e1, e2, e3⟩
  · show (s'.TM e).isSome = true ↔ ∃ p ∈ f.opn.filter (fun p => decide (t < p.stop)), p.stop = e
    rw [htm e, h.tm e]
    constructor
    · rintro ⟨⟨p, hp, e1⟩, h8⟩
      exact ⟨p, List.mem_filter.2 ⟨hp, by rw [e1]; simpa using h8⟩, e1⟩
    · rintro ⟨p, hp, e1⟩
      obtain ⟨hp1, hp2⟩ := List.mem_filter.1 hp
      exact ⟨⟨p, hp1, e1⟩, by rw [← e1]; simpa using hp2⟩
  · exact h.time p (List.mem_filter.1 hp).1
  · have he2 : e ∈ s'.SL l d := he
    rw [T.slots h L D hd'] at he2
    rcases List.mem_append.1 he2 with he3 | he3
    · split at he3
      · cases he3
      · exact h.slotT l d e hl hd' he3
    · exact h.tmT ((h.drMem h3 h6).1 (List.mem_filter.1 (List.mem_filter.1 he3).1).1).1
  · have hw := T.wheel h L D
    rw [← hm] at hw
    exact hw
  · show s'.ps.length = f.parts.length
    rw [D.ps, L.ps]
    exact h.plen
  · have hq2 : s0.ps[i]? = some q := by rw [← L.ps, ← D.ps]; exact hq
    show PtRel s'.C.idle q p
    rw [hC]
    exact h.parts i q p hq2 hp
end
end Go.Proofs.YtgepipnbfgdjkaaGreatDoor
