import Derived.Test.YtnnoaolceeendaaGreatDoorFlwJ
import Derived.Test.YtnnoaolceeendaaGreatDoorFlwL
namespace Go.Proofs.YtnnoaolceeendaaGreatDoor
open Go.ChangeShapes Go.WideShapes Go.ChangeAt Go.RowKit

def atLD (t : Int) (l d : Nat) (e : Int) : Bool := decide (Wh.levF (Wh.rk t) (Wh.rk e) = l) && decide (Wh.dig l (Wh.rk e) = d)
theorem place_at (t : Int) (l d : Nat) : ∀ (L : List Int) (SL : Nat → Nat → List Int), (L.foldl (placeF t) SL) l d = SL l d ++ L.filter (atLD t l d)
  | [], SL => by simp
  | e :: L, SL => by
    rw [List.foldl_cons, place_at t l d L]
    unfold placeF upd
    by_cases h : l = Wh.levF (Wh.rk t) (Wh.rk e) ∧ d = Wh.dig (Wh.levF (Wh.rk t) (Wh.rk e)) (Wh.rk e)
    · obtain ⟨rfl, rfl⟩ := h
      have h2 : atLD t (Wh.levF (Wh.rk t) (Wh.rk e)) (Wh.dig (Wh.levF (Wh.rk t) (Wh.rk e)) (Wh.rk e)) e = true := by simp [atLD]
      rw [if_pos ⟨rfl, rfl⟩, List.filter_cons_of_pos h2]
      simp
    · have h2 : ¬ atLD t l d e = true := by
        unfold atLD
        simp only [Bool.and_eq_true, decide_eq_true_eq]
        rintro ⟨h3, h4⟩
        exact h ⟨h3.symm, by rw [h3]; exact h4.symm⟩
      rw [if_neg h, List.filter_cons_of_neg h2]
theorem plc_at (t : Int) (SL : Nat → Nat → List Int) (L : List Int) (l d : Nat) : plc t SL L l d = SL l d ++ (L.filter fun e => decide (t < e)).filter (atLD t l d) := place_at t l d _ _

section
variable {s0 s s' : FS} {f : M.Fl ByteArray} {t : Int} {top a k : Nat}

theorem FRel.drNodup (h : FRel s0 f) {l a k : Nat} (hl : l < 16) (hak : a + k ≤ 16) : (drL s0 l a k).Nodup := by
  unfold drL
  rw [List.Nodup, List.pairwise_flatMap]
  refine ⟨fun d hd => ?_, ?_⟩
  · have hd' := List.mem_range'_1.1 hd
    have h1 := h.wheel.nodup l d hl (by omega)
    have h2 : (s0.SL l d).Nodup := by
      have h3 := List.pairwise_map.1 h1
      exact h3.imp fun {x y} hxy e => hxy (by rw [e])
    exact (List.mergeSort_perm _ _).nodup_iff.2 h2
  · refine (List.pairwise_lt_range' (s := a) (n := k)).imp_of_mem fun {x y} hx hy hxy e he e' he' heq => ?_
    subst heq
    have hx' := List.mem_range'_1.1 hx
    have hy' := List.mem_range'_1.1 hy
    have h1 := ((h.slot hl (show x < 16 by omega)).1 (sortI_mem.1 he)).2.2
    have h2 := ((h.slot hl (show y < 16 by omega)).1 (sortI_mem.1 he')).2.2
    omega

theorem FRel.ends_len (h : FRel s0 f) {L : List Int} (hn : L.Nodup) (hm : ∀ e ∈ L, (s0.TM e).isSome = true) : L.length ≤ f.opn.length := by
  have h2 : (f.opn.map fun p => p.stop).length = f.opn.length := List.length_map _
  rw [← h2]
  refine hn.length_le_of_subset fun e he => ?_
  obtain ⟨p, hp, rfl⟩ := (h.tm e).1 (hm e he)
  exact List.mem_map.2 ⟨p, hp, rfl⟩

theorem FRel.slot_len (h : FRel s0 f) {l d : Nat} (hl : l < 16) (hd : d < 16) : (s0.SL l d).length ≤ f.opn.length := by
  have h1 := h.wheel.nodup l d hl hd
  have h2 : (s0.SL l d).Nodup := by
    have h3 := List.pairwise_map.1 h1
    exact h3.imp fun {x y} hxy e => hxy (by rw [e])
  exact h.ends_len h2 fun e he => ((h.slot hl hd).1 he).1

theorem lowL_prefix (s0 : FS) {l m : Nat} (h : l ≤ m) : ∃ r, lowL s0 m = lowL s0 l ++ r := by
  obtain ⟨n, rfl⟩ : ∃ n, m = l + n := ⟨m - l, by omega⟩
  clear h
  induction n with
  | zero => exact ⟨[], by simp⟩
  | succ n ih =>
    obtain ⟨r, hr⟩ := ih
    exact ⟨r ++ drL s0 (l + n) 0 16, by rw [← Nat.add_assoc, lowL_succ, hr, List.append_assoc]⟩

/-- What a turn asks beside. -/
structure TurnB (s0 : FS) (f : M.Fl ByteArray) : Prop where
  room : f.opn.length + f.told.length ≤ 50000000
  keys : ∀ e, (s0.TM e).isSome = true → ∃ ks, KeysAre (s0.GM e) ks

theorem Turn.told_len (h : FRel s0 f) (T : Turn s0 t top a k) (B : TurnB s0 f) : s0.told.length + (tld s0.GM s0.C.size t (lowL s0 top ++ drL s0 top a k)).length ≤ 100000000 := by
  rw [T.told h B.keys, (M.sortP_perm soK (M.filter_apart h.inv.opn.apart _)).length_eq, h.told]
  have := List.length_filter_le (fun p : M.Pn ByteArray => decide (p.stop ≤ t)) f.opn
  have := B.room
  omega

theorem FRel.over (h : FRel s0 f) {e : Int} (he : (s0.TM e).isSome = true) : fits (e - s0.C.size) ∧ ∃ key, (s0.GM e key).isSome = true := by
  obtain ⟨p, hp, rfl⟩ := (h.tm e).1 he
  have h1 := (h.inv.opn.stop p hp).2
  have h2 := (h.time p hp).2
  refine ⟨?_, p.key, by rw [h.val hp]; rfl⟩
  rw [show p.stop - s0.C.size = p.start by omega]
  exact h2

theorem FRel.kk (h : FRel s0 f) (B : TurnB s0 f) : ∃ kk : List ByteArray, kk.length ≤ 100000000 ∧ ∀ e k, (s0.GM e k).isSome = true → k ∈ kk := by
  refine ⟨f.opn.map fun p => p.key, by rw [List.length_map]; have := B.room; omega, fun e k hk => ?_⟩
  obtain ⟨n, hn⟩ := Option.isSome_iff_exists.1 hk
  obtain ⟨p, hp, -, rfl, -⟩ := (h.opn e k n).1 hn
  exact List.mem_map.2 ⟨p, hp, rfl⟩

/-- The drains on the way ask nothing that isn't so. -/
theorem Turn.drainOk (h : FRel s0 f) (T : Turn s0 t top a k) (B : TurnB s0 f) {lv b n : Nat} (L : Low s0 s t lv) (hlv : lv < 16) (hbn : b + n ≤ 16) (hoff : ∀ e ∈ drL s0 lv b n, t < e → Wh.levF (Wh.rk t) (Wh.rk e) ≠ lv) (htl : s0.told.length + (tld s0.GM s0.C.size t (lowL s0 lv ++ drL s0 lv b n)).length ≤ 100000000) : DrainOk s lv b n := by
  have hd : drL s lv b n = drL s0 lv b n := L.same (Nat.le_refl _) hbn
  have hm : ∀ e ∈ drL s0 lv b n, (s0.TM e).isSome = true := fun e he => ((h.drMem hlv hbn).1 he).1
  have hn := h.drNodup hlv hbn
  have hlen := h.ends_len hn hm
  refine ⟨?_, fun e he => ?_, fun e he h1 => ?_, fun e he h1 => ?_, ?_, fun l d hl hd' => ?_, ?_, ?_⟩
  · rw [L.m]; exact T.tT
  · rw [hd] at he; exact h.tmT (hm e he)
  · rw [hd] at he; rw [L.m] at h1 ⊢; exact hoff e he h1
  · rw [hd] at he
    rw [L.TM, L.C, L.GM]
    refine ⟨?_, h.over (hm e he)⟩
    unfold gone
    rw [if_neg]
    · exact Option.isSome_iff_exists.1 (hm e he)
    · rintro ⟨h2, -⟩
      obtain ⟨-, lv', h3, h4⟩ := (h.lowMem (by omega)).1 h2
      have := ((h.drMem hlv hbn).1 he).2.1.uniq h4
      omega
  · rw [hd]; exact hn
  · rw [hd, L.SL l d hd']
    have h1 := h.slot_len hl hd'
    have h2 := B.room
    split
    · simp only [List.length_nil]; omega
    · omega
  · rw [hd, L.told, L.GM, L.C, L.m, List.length_append]
    rw [tld_append, List.length_append] at htl
    omega
  · rw [L.GM]; exact h.kk B

theorem Turn.drainLow (h : FRel s0 f) (T : Turn s0 t top a k) (B : TurnB s0 f) {lv : Nat} (L : Low s0 s t lv) (hlv : lv < top) : DrainOk s lv 0 16 := by
  obtain ⟨h1, h2, h3, h4, h5, h6, h7⟩ := T.more h
  have hin : ∀ e ∈ drL s0 lv 0 16, e ∈ lowL s0 top := fun e he => by
    obtain ⟨h8, h9, -⟩ := (h.drMem (by omega) (by omega)).1 he
    exact (h.lowMem (by omega)).2 ⟨h8, lv, hlv, h9⟩
  refine T.drainOk h B L (by omega) (by omega) (fun e he hte => ?_) ?_
  · have := T.low h (hin e he)
    omega
  · obtain ⟨r, hr⟩ := lowL_prefix s0 (show lv + 1 ≤ top by omega)
    rw [lowL_succ] at hr
    have := T.told_len h B
    rw [hr, List.append_assoc, tld_append, List.length_append] at this
    omega

theorem Low.step (h : FRel s0 f) (T : Turn s0 t top a k) {lv : Nat} (L : Low s0 s t lv) (hlv : lv < top) (D : Drained s s' lv 0 16) : Low s0 s' t (lv + 1) := by
  obtain ⟨h1, h2, h3, h4, h5, h6, h7⟩ := T.more h
  have hd : drL s lv 0 16 = drL s0 lv 0 16 := L.same (Nat.le_refl _) (by omega)
  have hall : ∀ e ∈ drL s0 lv 0 16, e ≤ t := fun e he => by
    obtain ⟨h8, h9, -⟩ := (h.drMem (by omega) (by omega)).1 he
    exact T.low h ((h.lowMem (by omega)).2 ⟨h8, lv, hlv, h9⟩)
  refine ⟨D.C.trans L.C, D.pv.trans L.pv, D.ps.trans L.ps, D.m.trans L.m, D.bt.trans L.bt, D.GM.trans L.GM, D.av.trans L.av, D.after.trans L.after, ?_, ?_, fun l d hd' => ?_⟩
  · rw [D.TM, L.m, L.TM, gone_gone, hd, lowL_succ]
  · rw [D.told, L.told, L.GM, L.C, L.m, hd, lowL_succ, tld_append, List.append_assoc]
  · by_cases hl : l = lv
    · subst hl
      rw [D.clean d (Nat.zero_le _) (by omega), if_pos (by omega)]
    · rw [D.SL l d hl, hd, L.m, plc_none hall, L.SL l d hd']
      by_cases h8 : l < lv
      · rw [if_pos h8, if_pos (by omega)]
      · rw [if_neg h8, if_neg (by omega)]

/-- An end beyond the mark, on the way's own level, stands in the slot of the new digit. -/
theorem Turn.beyond (h : FRel s0 f) (T : Turn s0 t top a k) {e : Int} (he : e ∈ drL s0 top a k) (hte : t < e) : Wh.LevIs top (Wh.rk s0.m) (Wh.rk e) ∧ Wh.dig top (Wh.rk e) = Wh.dig top (Wh.rk t) ∧ Wh.levF (Wh.rk t) (Wh.rk e) < top := by
  obtain ⟨h1, h2, h3, h4, h5, h6, h7⟩ := T.more h
  obtain ⟨h8, h9, h10, h11⟩ := (h.drMem h3 h6).1 he
  have hlt := (Wh.rk_lt T.tT (h.tmT h8)).2 hte
  have hk := T.hK
  have hd : Wh.dig top (Wh.rk e) = Wh.dig top (Wh.rk t) := by
    rcases Nat.lt_or_ge (Wh.dig top (Wh.rk e)) (Wh.dig top (Wh.rk t)) with h12 | h12
    · have := Wh.same_ahead h2 h9 h12; omega
    · omega
  obtain ⟨j, hj, hj2⟩ := Wh.same_in h2 h9 hd hlt
  have := hj2.uniq (Wh.levF_is (by omega))
  exact ⟨h9, hd, by omega⟩

theorem Turn.drainTop (h : FRel s0 f) (T : Turn s0 t top a k) (B : TurnB s0 f) (L : Low s0 s t top) : DrainOk s top a k := by
  obtain ⟨h1, h2, h3, h4, h5, h6, h7⟩ := T.more h
  exact T.drainOk h B L h3 h6 (fun e he hte => by have := (T.beyond h he hte).2.2; omega) (T.told_len h B)

/-- What was folded, of what waits alone. -/
def onlyGM (TM : Int → Option Nat) (GM : Int → ByteArray → Option Int) : Int → ByteArray → Option Int := fun e k => if (TM e).isSome = true then GM e k else none

theorem FlowIs.only {w : World} {g : Nat} (h : FlowIs w g s) : FlowIs w g { s with GM := onlyGM s.TM s.GM } :=
  ⟨h.ob.like (fun _ _ => rfl), h.parts, h.tls, fun e b hb => by
    have := h.tal e b hb
    have e1 : onlyGM s.TM s.GM e = s.GM e := by
      funext k
      unfold onlyGM
      rw [if_pos (by rw [hb]; rfl)]
    show TalAt w b (onlyGM s.TM s.GM e)
    rw [e1]
    exact this, h.tin, h.slot, h.sin, h.told, h.late⟩
end
end Go.Proofs.YtnnoaolceeendaaGreatDoor
namespace Go.Proofs.YtnnoaolceeendaaGreatDoor
open Go.ChangeShapes Go.WideShapes Go.ChangeAt Go.RowKit

section
variable {s0 s s' : FS} {f : M.Fl ByteArray} {t : Int} {top a k : Nat}

theorem Turn.tm (h : FRel s0 f) (T : Turn s0 t top a k) (L : Low s0 s t top) (D : Drained s s' top a k) (e : Int) : (s'.TM e).isSome = true ↔ (s0.TM e).isSome = true ∧ t < e := by
  obtain ⟨h1, h2, h3, h4, h5, h6, h7⟩ := T.more h
  have hd : drL s top a k = drL s0 top a k := L.same (Nat.le_refl _) h6
  rw [D.TM, L.m, L.TM, gone_gone, hd]
  have hE := (T.ends h).2 e
  unfold endsL at hE
  rw [List.mem_filter] at hE
  unfold gone
  constructor
  · intro hx
    split at hx
    · cases hx
    · rename_i hc
      refine ⟨hx, ?_⟩
      rcases Int.lt_or_le t e with h8 | h8
      · exact h8
      · have := hE.2 ⟨hx, h8⟩
        exact absurd ⟨this.1, h8⟩ hc
  · rintro ⟨h8, h9⟩
    rw [if_neg (by omega)]
    exact h8

/-- The slots behind a turn. -/
theorem Turn.slots (h : FRel s0 f) (T : Turn s0 t top a k) (L : Low s0 s t top) (D : Drained s s' top a k) {l d : Nat} (hd16 : d < 16) :
    s'.SL l d = (if l < top ∨ (l = top ∧ a ≤ d ∧ d ≤ Wh.dig top (Wh.rk t)) then [] else s0.SL l d) ++ ((drL s0 top a k).filter fun e => decide (t < e)).filter (atLD t l d) := by
  obtain ⟨h1, h2, h3, h4, h5, h6, h7⟩ := T.more h
  have hk := T.hK
  have hd : drL s top a k = drL s0 top a k := L.same (Nat.le_refl _) h6
  by_cases hl : l = top
  · subst hl
    have hnil : ((drL s0 l a k).filter fun e => decide (t < e)).filter (atLD t l d) = [] := List.filter_eq_nil_iff.2 fun e he hx => by
      have he' := List.mem_filter.1 he
      have := (T.beyond h he'.1 (by simpa using he'.2)).2.2
      simp only [atLD, Bool.and_eq_true, decide_eq_true_eq] at hx
      omega
    rw [hnil, List.append_nil]
    by_cases hc : a ≤ d ∧ d ≤ Wh.dig l (Wh.rk t)
    · rw [if_pos (.inr ⟨rfl, hc⟩), D.clean d hc.1 (by omega)]
    · rw [if_neg (by omega), D.rest d (by omega), L.SL l d hd16, if_neg (by omega)]
  · rw [D.SL l d hl, hd, L.m, plc_at, L.SL l d hd16]
    congr 1
    by_cases h8 : l < top
    · rw [if_pos h8, if_pos (.inl h8)]
    · rw [if_neg h8, if_neg (by omega)]

theorem Turn.wheel (h : FRel s0 f) (T : Turn s0 t top a k) (L : Low s0 s t top) (D : Drained s s' top a k) : Wh.Wheel 16 (Wh.rk t) (fun x => ∃ e, (s'.TM e).isSome = true ∧ Wh.rk e = x) (fun l d => (s'.SL l d).map Wh.rk) := by
  obtain ⟨h1, h2, h3, h4, h5, h6, h7⟩ := T.more h
  have hR := Wh.turn_rest h.wheel h1 h2 h3
  have hE' : ∀ x, (∃ e, (s'.TM e).isSome = true ∧ Wh.rk e = x) ↔ (∃ e, (s0.TM e).isSome = true ∧ Wh.rk e = x) ∧ Wh.rk t < x := fun x => by
    constructor
    · rintro ⟨e, h8, rfl⟩
      obtain ⟨h9, h10⟩ := (T.tm h L D e).1 h8
      exact ⟨⟨e, h9, rfl⟩, (Wh.rk_lt T.tT (h.tmT h9)).2 h10⟩
    · rintro ⟨⟨e, h8, rfl⟩, h9⟩
      exact ⟨e, (T.tm h L D e).2 ⟨h8, (Wh.rk_lt T.tT (h.tmT h8)).1 h9⟩, rfl⟩
  -- what was laid down anew
  have hP : ∀ {l d : Nat} {x : Nat}, x ∈ ((((drL s0 top a k).filter fun e => decide (t < e)).filter (atLD t l d)).map Wh.rk) ↔ ((∃ e, (s0.TM e).isSome = true ∧ Wh.rk e = x) ∧ Wh.rk t < x ∧ (Wh.LevIs top (Wh.rk s0.m) x ∧ Wh.dig top x = Wh.dig top (Wh.rk t))) ∧ Wh.LevIs l (Wh.rk t) x ∧ Wh.dig l x = d := fun {l d x} => by
    constructor
    · intro hx
      obtain ⟨e, he, rfl⟩ := List.mem_map.1 hx
      obtain ⟨he1, he2⟩ := List.mem_filter.1 he
      obtain ⟨he3, he4⟩ := List.mem_filter.1 he1
      simp only [decide_eq_true_eq] at he4
      simp only [atLD, Bool.and_eq_true, decide_eq_true_eq] at he2
      have h8 := ((h.drMem h3 h6).1 he3).1
      obtain ⟨h9, h10, -⟩ := T.beyond h he3 he4
      have hlt := (Wh.rk_lt T.tT (h.tmT h8)).2 he4
      refine ⟨⟨⟨e, h8, rfl⟩, hlt, h9, h10⟩, ?_, he2.2⟩
      rw [← he2.1]
      exact Wh.levF_is (by omega)
    · rintro ⟨⟨⟨e, h8, rfl⟩, h9, h10, h11⟩, h12, h13⟩
      have hte := (Wh.rk_lt T.tT (h.tmT h8)).1 h9
      have hk := T.hK
      refine List.mem_map.2 ⟨e, List.mem_filter.2 ⟨List.mem_filter.2 ⟨(h.drMem h3 h6).2 ⟨h8, h10, by omega, by omega⟩, by simpa using hte⟩, ?_⟩, rfl⟩
      simp only [atLD, Bool.and_eq_true, decide_eq_true_eq]
      exact ⟨(Wh.levF_is (by omega)).uniq h12, h13⟩
  have hC : ∀ {l d : Nat}, (if l < top ∨ (l = top ∧ a ≤ d ∧ d ≤ Wh.dig top (Wh.rk t)) then [] else s0.SL l d).map Wh.rk = Wh.cleared (fun l d => (s0.SL l d).map Wh.rk) top (Wh.dig top (Wh.rk s0.m)) (Wh.dig top (Wh.rk t)) l d := fun {l d} => by
    unfold Wh.cleared
    rw [T.hA]
    split <;> rfl
  refine ⟨fun x hx => ((hE' x).1 hx).2, fun x hx => ?_, fun l d x hl hd => ?_, fun l d hl hd => ?_⟩
  · obtain ⟨⟨e, h8, rfl⟩, -⟩ := (hE' x).1 hx
    rw [Nat.div_eq_of_lt (Wh.rk_bd T.tT), Nat.div_eq_of_lt (Wh.rk_bd (h.tmT h8))]
  · rw [T.slots h L D hd, List.map_append, List.mem_append, hC, hR.mem l d x hl hd, hP, hE']
    constructor
    · rintro (⟨⟨h8, h9, -⟩, h10, h11⟩ | ⟨⟨h8, h9, -⟩, h10, h11⟩)
      · exact ⟨⟨h8, h9⟩, h10, h11⟩
      · exact ⟨⟨h8, h9⟩, h10, h11⟩
    · rintro ⟨⟨h8, h9⟩, h10, h11⟩
      by_cases hc : Wh.LevIs top (Wh.rk s0.m) x ∧ Wh.dig top x = Wh.dig top (Wh.rk t)
      · exact .inr ⟨⟨h8, h9, hc⟩, h10, h11⟩
      · exact .inl ⟨⟨h8, h9, hc⟩, h10, h11⟩
  · rw [T.slots h L D hd, List.map_append, hC]
    refine List.nodup_append.2 ⟨hR.nodup l d hl hd, ?_, fun x hx y hy hxy => ?_⟩
    · have hn := ((h.drNodup h3 h6).filter (fun e => decide (t < e))).filter (atLD t l d)
      refine List.pairwise_map.2 (hn.imp_of_mem fun {x y} hx hy hxy e => hxy ?_)
      have hx1 := ((h.drMem h3 h6).1 (List.mem_filter.1 (List.mem_filter.1 hx).1).1).1
      have hy1 := ((h.drMem h3 h6).1 (List.mem_filter.1 (List.mem_filter.1 hy).1).1).1
      exact Wh.rk_inj (h.tmT hx1) (h.tmT hy1) e
    · subst hxy
      exact ((hR.mem l d x hl hd).1 hx).1.2.2 (hP.1 hy).1.2.2

/-- The flow behind a turn. -/
theorem Turn.done (h : FRel s0 f) (T : Turn s0 t top a k) (B : TurnB s0 f) (L : Low s0 s t top) (D : Drained s s' top a k) : FRel { s' with GM := onlyGM s'.TM s'.GM } (M.tellF ltK t f) := by
  obtain ⟨h1, h2, h3, h4, h5, h6, h7⟩ := T.more h
  have hd : drL s top a k = drL s0 top a k := L.same (Nat.le_refl _) h6
  have htm := fun e => T.tm h L D e
  have hC : s'.C = s0.C := D.C.trans L.C
  have hGM : s'.GM = s0.GM := D.GM.trans L.GM
  have hm : s'.m = t := D.m.trans L.m
  have hnow : f.now < t := by rw [← h.now]; exact T.lt
  refine ⟨hm, ?_, ?_, ?_, fun e key n => ?_, fun e => ?_, fun p hp => ?_, fun l d e hl hd' he => ?_, ?_, ?_, fun i q p hq hp => ?_⟩
  · show s'.told = f.told ++ M.sortP ltK (f.opn.filter fun p => decide (p.stop ≤ t))
    rw [D.told, L.told, L.GM, L.C, L.m, hd, List.append_assoc, ← tld_append, T.told h B.keys, h.told]
  · show s'.after = f.after
    rw [D.after, L.after, h.after]
  · show M.Inv ltK s'.C.size _
    rw [hC]
    exact (M.tell_inv soK h.inv (by omega) T.tT.2).1
  · show onlyGM s'.TM s'.GM e key = some n ↔ ∃ p ∈ f.opn.filter (fun p => decide (t < p.stop)), p.stop = e ∧ p.key = key ∧ p.n = n
    unfold onlyGM
    rw [hGM]
    constructor
    · intro hx
      split at hx
      · rename_i hs
        obtain ⟨p, hp, e1, e2, e3⟩ := (h.opn e key n).1 hx
        exact ⟨p, List.mem_filter.2 ⟨hp, by rw [e1]; simpa using ((htm e).1 hs).2⟩, e1, e2, e3⟩
      · cases hx
    · rintro ⟨p, hp, e1, e2, e3⟩
      obtain ⟨hp1, hp2⟩ := List.mem_filter.1 hp
      rw [if_pos ((htm e).2 ⟨(h.tm e).2 ⟨p, hp1, e1⟩, by rw [← e1]; simpa using hp2⟩)]
      exact (h.opn e key n).2 ⟨p, hp1, e1, e2, e3⟩
  · show (s'.TM e).isSome = true ↔ ∃ p ∈ f.opn.filter (fun p => decide (t < p.stop)), p.stop = e
    rw [htm e, h.tm e]
    constructor
    · rintro ⟨⟨p, hp, e1⟩, h8⟩
      exact ⟨p, List.mem_filter.2 ⟨hp, by rw [e1]; simpa using h8⟩, e1⟩
    · rintro ⟨p, hp, e1⟩
      obtain ⟨hp1, hp2⟩ := List.mem_filter.1 hp
      exact ⟨⟨p, hp1, e1⟩, by rw [← e1]; simpa using hp2⟩
  · exact h.time p (List.mem_filter.1 hp).1
  · have he2 : e ∈ s'.SL l d := he
    rw [T.slots h L D hd'] at he2
    rcases List.mem_append.1 he2 with he3 | he3
    · split at he3
      · cases he3
      · exact h.slotT l d e hl hd' he3
    · exact h.tmT ((h.drMem h3 h6).1 (List.mem_filter.1 (List.mem_filter.1 he3).1).1).1
  · have hw := T.wheel h L D
    rw [← hm] at hw
    exact hw
  · show s'.ps.length = f.parts.length
    rw [D.ps, L.ps]
    exact h.plen
  · have hq2 : s0.ps[i]? = some q := by rw [← L.ps, ← D.ps]; exact hq
    show PtRel s'.C.idle q p
    rw [hC]
    exact h.parts i q p hq2 hp
end
end Go.Proofs.YtnnoaolceeendaaGreatDoor
namespace Go.Proofs.YtnnoaolceeendaaGreatDoor
open Go.ChangeShapes Go.WideShapes Go.ChangeAt Go.RowKit

theorem FlowIs.setMark {w : World} {g : Nat} {s : FS} (h : FlowIs w g s) (t : Int) : Way w (w.setCell ⟨g, 7, none⟩ (.int .i64 t)) g s { s with m := t } := by
  have hg : ∀ K k, K ≠ .flow → kd g s K k → (w.setCell ⟨g, 7, none⟩ (.int .i64 t)).heap[k]? = w.heap[k]? := fun K k hF hk => Below.heap_setCell w ⟨g, 7, none⟩ _ k (fun e => hF (kd_inj h hk (show kd g s .flow k from e)))
  exact ⟨⟨h.ob.setMark t, h.parts.agree (fun k hk => hg .part k (by simp) hk), h.tls.agree (hg .tls _ (by simp) rfl), fun x b hb => (h.tal x b hb).agree (hg (.tal x) b (by simp) hb), h.tin, fun a b ha hb => (h.slot a b ha hb).agree (fun k hk => hg (.slot a b) k (by simp) ⟨ha, hb, hk⟩), h.sin,
    h.told.agree (fun k hk => hg .pane k (by simp) hk), h.late.agree (fun k hk => hg .event k (by simp) hk)⟩, Touch.set (S := foot g s) (.inl rfl) _, fun k hk => .inl hk⟩

theorem tell_same {size : Int} {f : M.Fl ByteArray} (h : M.Inv ltK size f) : M.tellF ltK f.now f = f := by
  unfold M.tellF
  rw [List.filter_eq_self.2 (fun p hp => by simpa using (h.opn.stop p hp).1), List.filter_eq_nil_iff.2 (fun p hp => by have := (h.opn.stop p hp).1; simp; omega)]
  simp [M.sortP]

def onward (m t : Int) : Int := if m < t then t else m

theorem Way.only {w w' : World} {g : Nat} {s0 s : FS} (h : Way w w' g s0 s) : Way w w' g s0 { s with GM := onlyGM s.TM s.GM } := ⟨h.fl.only, h.touch, h.foot⟩
theorem Way.trans {w0 w1 w2 : World} {g : Nat} {s0 s1 s2 : FS} (h : Way w0 w1 g s0 s1) (k : Way w1 w2 g s1 s2) : Way w0 w2 g s0 s2 := h.next k.fl k.touch (fun _ hk => hk) k.foot

set_option maxRecDepth 100000 in
set_option maxHeartbeats 4000000 in
theorem turn_any (g bx : Nat) (s : FS) (f : M.Fl ByteArray) (t : Int) (w : World) (h : FlowIs w g s) (hR : FRel s f) (hB : TurnB s f) (hbx : w.heap[bx]? = some (.cells #[.pointer (some ⟨g, 0, none⟩)] 25 (0, 0))) (ht : Wh.IsT t) :
    Calls Tryz.prog 72 #[.pointer (some ⟨g, 7, none⟩), .int .i64 t, .func (.func 74) #[] #[.pointer (some ⟨bx, 0, none⟩)]] w fun r w' => r = .returned (.tuple #[]) ∧ ∃ s', Way w w' g s s' ∧ FRel s' (M.tellF ltK (onward s.m t) f) ∧ s'.C = s.C := by
  have c7 := h.ob.at7
  have f7 := h.ob.frozen 7
  have H := hideP h
  have HR := hideP hR
  have HB := hideP hB
  have HX := hideP hbx
  clear h hR hB hbx
  by_cases hmt : s.m < t
  · have hT : Turn s t (Wh.levF (Wh.rk s.m) (Wh.rk t)) (Wh.dig (Wh.levF (Wh.rk s.m) (Wh.rk t)) (Wh.rk s.m)) (Wh.dig (Wh.levF (Wh.rk s.m) (Wh.rk t)) (Wh.rk t) + 1 - Wh.dig (Wh.levF (Wh.rk s.m) (Wh.rk t)) (Wh.rk s.m)) := ⟨ht, hmt, rfl, rfl, rfl⟩
    have LV := level_any s.m t w HR.out.mT ht (by omega)
    obtain ⟨top, htop⟩ : ∃ x, x = Wh.levF (Wh.rk s.m) (Wh.rk t) := ⟨_, rfl⟩
    rw [← htop] at hT LV
    obtain ⟨d1, hd1⟩ : ∃ x, x = Wh.dig top (Wh.rk s.m) := ⟨_, rfl⟩
    obtain ⟨d2, hd2⟩ : ∃ x, x = Wh.dig top (Wh.rk t) := ⟨_, rfl⟩
    rw [← hd1] at hT
    have hmore := hT.more HR.out
    rw [← hd2] at hT hmore
    obtain ⟨-, -, ht16, hd12, hd216, -, -⟩ := hmore
    have DG1 : Hid (∀ w, Calls Tryz.prog 107 #[.int .i64 s.m, .int .i64 (top : Int)] w fun r w' => r = .returned (.int .i64 (d1 : Int)) ∧ w' = w) := fun w => by rw [hd1]; exact digit_any s.m top w HR.out.mT ht16
    have DG2 : Hid (∀ w, Calls Tryz.prog 107 #[.int .i64 t, .int .i64 (top : Int)] w fun r w' => r = .returned (.int .i64 (d2 : Int)) ∧ w' = w) := fun w => by rw [hd2]; exact digit_any t top w ht ht16
    have HLV := hideP LV
    have HT := hideP hT
    clear LV hT htop hd1 hd2
    have SM := hideP (H.out.setMark t)
    have L0 := hideP (Low.start s t)
    go_enter Tryz.func72, Tryz.ntmps72
    go_wp2_with (first
      | (go_at_call 106; refine HLV.out.mono ?_; rintro r w9 ⟨rfl, rfl⟩)
      | (go_at_call_of 107 (Value.int IntKind.i64 s.m); refine (DG1.out _).mono ?_; rintro r w9 ⟨rfl, rfl⟩)
      | (go_at_call_of 107 (Value.int IntKind.i64 t); refine (DG2.out _).mono ?_; rintro r w9 ⟨rfl, rfl⟩))
    go_loopw [36] (fun ii wr => ∃ lv : Nat, lv ≤ top ∧ ii = .int .i64 lv ∧ ∃ s1, Hid (Way w9 wr g s s1 ∧ Low s s1 t lv)) (fun ii _ => top - (intOf ii).toNat)
    case atStart => exact ⟨0, Nat.zero_le _, rfl, _, SM.out, L0.out⟩
    case round =>
      obtain ⟨lv, hlv, rfl, s1, HW⟩ := hrel
      by_cases hlt : lv < top
      · have DR := hideP (drain_any g bx s1 lv 0 16 (9 + lv * 16) 16 wr HW.out.1.fl (HW.out.1.box H.out HX.out) (by omega) (by omega) (by omega) rfl (HT.out.drainLow HR.out HB.out HW.out.2 hlt))
        have i1 : (0 : Int) ≤ (lv : Int) := by omega
        have i2 : (lv : Int) < 16 := by omega
        have i3 : (lv : Int) < (top : Int) := by omega
        go_wp2_with (go_at_call 108; refine DR.out.mono ?_; rintro r w2 ⟨rfl, s2, hw2, hd2⟩)
        have HW2 := hideP (show Way w9 w2 g s s2 ∧ Low s s2 t (lv + 1) from ⟨HW.out.1.trans hw2, HW.out.2.step HR.out HT.out hlt hd2⟩)
        clear hw2 hd2 DR
        go_roundw
        case rel => exact ⟨lv + 1, by omega, by go_num, _, HW2⟩
        case measure => simp [intOf]; omega
      · have el : lv = top := by omega
        subst el
        have DR := hideP (drain_any g bx s1 lv d1 (d2 + 1 - d1) (9 + lv * 16 + d1) (16 - d1) wr HW.out.1.fl (HW.out.1.box H.out HX.out) (by omega) (by omega) (by omega) rfl (HT.out.drainTop HR.out HB.out HW.out.2))
        have i1 : (0 : Int) ≤ (lv : Int) := by omega
        have i2 : (lv : Int) < 16 := by omega
        have i4 : (0 : Int) ≤ (d1 : Int) := by omega
        have i5 : (d1 : Int) ≤ (d2 : Int) + 1 := by omega
        have i6 : (d2 : Int) + 1 ≤ 16 := by omega
        go_wp2_with (go_at_call 108; refine DR.out.mono ?_; rintro r w2 ⟨rfl, s2, hw2, hd2⟩)
        go_end0
        refine ⟨rfl, _, (HW.out.1.trans hw2).only, ?_, ?_⟩
        · rw [onward, if_pos hmt]
          exact HT.out.done HR.out HB.out HW.out.2 hd2
        · exact hd2.C.trans HW.out.2.C
  · go_enter Tryz.func72, Tryz.ntmps72
    go_wp2
    refine bodyPost_ret (v := .tuple #[]) (by simp [results, Tryz.results72, go_sem]) rfl ?_
    refine ⟨rfl, s, Way.start H.out, ?_, rfl⟩
    rw [onward, if_neg (by omega), HR.out.now, tell_same HR.out.inv]
    exact HR.out
end Go.Proofs.YtnnoaolceeendaaGreatDoor
