import Derived.Test.YtgepipnbfgdjkaaGreatDoorFlwJ
import Derived.Test.YtgepipnbfgdjkaaGreatDoorFlwL
namespace Go.Proofs.YtgepipnbfgdjkaaGreatDoor
open Go.ChangeShapes Go.WideShapes Go.ChangeAt Go.RowKit

def atLD (t : Int) (l d : Nat) (e : Int) : Bool := decide (Wh.levF (Wh.rk t) (Wh.rk e) = l) && decide (Wh.dig l (Wh.rk e) = d)
theorem place_at (t : Int) (l d : Nat) : ∀ (L : List Int) (SL : Nat → Nat → List Int), (L.foldl (placeF t) SL) l d = SL l d ++ L.filter (atLD t l d)
  | [], SL => by simp
  | e :: L, SL => by
    rw [List.foldl_cons, place_at t l d L]
    unfold placeF upd
    by_cases h : l = Wh.levF (Wh.rk t) (Wh.rk e) ∧ d = Wh.dig (Wh.levF (Wh.rk t) (Wh.rk e)) (Wh.rk e)
    · obtain ⟨rfl, rfl⟩ := h
      have h2 : atLD t (Wh.levF (Wh.rk t) (Wh.rk e)) (Wh.dig (Wh.levF (Wh.rk t) (Wh.rk e)) (Wh.rk e)) e = true := by simp [atLD]
      rw [if_pos ⟨rfl, rfl⟩, List.filter_cons_of_pos h2]
      simp
    · have h2 : ¬ atLD t l d e = true := by
        unfold atLD
        simp only [Bool.and_eq_true, decide_eq_true_eq]
        rintro ⟨h3, h4⟩
        exact h ⟨h3.symm, by rw [h3]; exact h4.symm⟩
      rw [if_neg h, List.filter_cons_of_neg h2]
theorem plc_at (t : Int) (SL : Nat → Nat → List Int) (L : List Int) (l d : Nat) : plc t SL L l d = SL l d ++ (L.filter fun e => decide (t < e)).filter (atLD t l d) := place_at t l d _ _

section
variable {s0 s s' : FS} {f : M.Fl ByteArray} {t : Int} {top a k : Nat}

theorem FRel.drNodup (h : FRel s0 f) {l a k : Nat} (hl : l < 16) (hak : a + k ≤ 16) : (drL s0 l a k).Nodup := by
  unfold drL
  rw [List.Nodup, List.pairwise_flatMap]
  refine ⟨fun d hd => ?_, ?_⟩
  · have hd' := List.mem_range'_1.1 hd
    have h1 := h.wheel.nodup l d hl (by omega)
    have h2 : (s0.SL l d).Nodup := by
      have h3 := List.pairwise_map.1 h1
      exact h3.imp fun {x y} hxy e => hxy (by rw [e])
    exact (List.mergeSort_perm _ _).nodup_iff.2 h2
  · refine (List.pairwise_lt_range' (s := a) (n := k)).imp_of_mem fun {x y} hx hy hxy e he e' he' heq => ?_
    subst heq
    have hx' := List.mem_range'_1.1 hx
    have hy' := List.mem_range'_1.1 hy
    have h1 := ((h.slot hl (show x < 16 by omega)).1 (sortI_mem.1 he)).2.2
    have h2 := ((h.slot hl (show y < 16 by omega)).1 (sortI_mem.1 he')).2.2
    omega

theorem FRel.ends_len (h : FRel s0 f) {L : List Int} (hn : L.Nodup) (hm : ∀ e ∈ L, (s0.TM e).isSome = true) : L.length ≤ f.opn.length := by
  have h2 : (f.opn.map fun p => p.stop).length = f.opn.length := List.length_map _
  rw [← h2]
  refine hn.length_le_of_subset fun e he => ?_
  obtain ⟨p, hp, rfl⟩ := (h.tm e).1 (hm e he)
  exact List.mem_map.2 ⟨p, hp, rfl⟩

theorem FRel.slot_len (h : FRel s0 f) {l d : Nat} (hl : l < 16) (hd : d < 16) : (s0.SL l d).length ≤ f.opn.length := by
  have h1 := h.wheel.nodup l d hl hd
  have h2 : (s0.SL l d).Nodup := by
    have h3 := List.pairwise_map.1 h1
    exact h3.imp fun {x y} hxy e => hxy (by rw [e])
  exact h.ends_len h2 fun e he => ((h.slot hl hd).1 he).1

theorem lowL_prefix (s0 : FS) {l m : Nat} (h : l ≤ m) : ∃ r, lowL s0 m = lowL s0 l ++ r := by
  obtain ⟨n, rfl⟩ : ∃ n, m = l + n := ⟨m - l, by omega⟩
  clear h
  induction n with
  | zero => exact ⟨[], by simp⟩
  | succ n ih =>
    obtain ⟨r, hr⟩ := ih
    exact ⟨r ++ drL s0 (l + n) 0 16, by rw [← Nat.add_assoc, lowL_succ, hr, List.append_assoc]⟩

/-- What a turn asks beside. -/
structure TurnB (s0 : FS) (f : M.Fl ByteArray) : Prop where
  room : f.opn.length + f.told.length ≤ 50000000
  keys : ∀ e, (s0.TM e).isSome = true → ∃ ks, KeysAre (s0.GM e) ks

theorem Turn.told_len (h : FRel s0 f) (T : Turn s0 t top a k) (B : TurnB s0 f) : s0.told.length + (tld s0.GM s0.C.size t (lowL s0 top ++ drL s0 top a k)).length ≤ 100000000 := by
  rw [T.told h B.keys, (M.sortP_perm soK (M.filter_apart h.inv.opn.apart _)).length_eq, h.told]
  have := List.length_filter_le (fun p : M.Pn ByteArray => decide (p.stop ≤ t)) f.opn
  have := B.room
  omega

theorem FRel.over (h : FRel s0 f) {e : Int} (he : (s0.TM e).isSome = true) : fits (e - s0.C.size) ∧ ∃ key, (s0.GM e key).isSome = true := by
  obtain ⟨p, hp, rfl⟩ := (h.tm e).1 he
  have h1 := (h.inv.opn.stop p hp).2
  have h2 := (h.time p hp).2
  refine ⟨?_, p.key, by rw [h.val hp]; rfl⟩
  rw [show p.stop - s0.C.size = p.start by omega]
  exact h2

theorem FRel.kk (h : FRel s0 f) (B : TurnB s0 f) : ∃ kk : List ByteArray, kk.length ≤ 100000000 ∧ ∀ e k, (s0.GM e k).isSome = true → k ∈ kk := by
  refine ⟨f.opn.map fun p => p.key, by rw [List.length_map]; have := B.room; omega, fun e k hk => ?_⟩
  obtain ⟨n, hn⟩ := Option.isSome_iff_exists.1 hk
  obtain ⟨p, hp, -, rfl, -⟩ := (h.opn e k n).1 hn
  exact List.mem_map.2 ⟨p, hp, rfl⟩

/-- The drains on the way ask nothing that isn't so. -/
theorem Turn.drainOk (h : FRel s0 f) (T : Turn s0 t top a k) (B : TurnB s0 f) {lv b n : Nat} (L : Low s0 s t lv) (hlv : lv < 16) (hbn : b + n ≤ 16) (hoff : ∀ e ∈ drL s0 lv b n, t < e → Wh.levF (Wh.rk t) (Wh.rk e) ≠ lv) (htl : s0.told.length + (tld s0.GM s0.C.size t (lowL s0 lv ++ drL s0 lv b n)).length ≤ 100000000) : DrainOk s lv b n := by
  have hd : drL s lv b n = drL s0 lv b n := L.same (Nat.le_refl _) hbn
  have hm : ∀ e ∈ drL s0 lv b n, (s0.TM e).isSome = true := fun e he => ((h.drMem hlv hbn).1 he).1
  have hn := h.drNodup hlv hbn
  have hlen := h.ends_len hn hm
  refine ⟨?_, fun e he => ?_, fun e he h1 => ?_, fun e he h1 => ?_, ?_, fun l d hl hd' => ?_, ?_, ?_⟩
  · rw [L.m]; exact T.tT
  · rw [hd] at he; exact h.tmT (hm e he)
  · rw [hd] at he; rw [L.m] at h1 ⊢; exact hoff e he h1
  · rw [hd] at he
    rw [L.TM, L.C, L.GM]
    refine ⟨?_, h.over (hm e he)⟩
    unfold gone
    rw [if_neg]
    · exact Option.isSome_iff_exists.1 (hm e he)
    · rintro ⟨h2, -⟩
      obtain ⟨-, lv', h3, h4⟩ := (h.lowMem (by omega)).1 h2
      have := ((h.drMem hlv hbn).1 he).2.1.uniq h4
      omega
  · rw [hd]; exact hn
  · rw [hd, L.SL l d hd']
    have h1 := h.slot_len hl hd'
    have h2 := B.room
    split
    · simp only [List.length_nil]; omega
    · omega
  · rw [hd, L.told, L.GM, L.C, L.m, List.length_append]
    rw [tld_append, List.length_append] at htl
    omega
  · rw [L.GM]; exact h.kk B

theorem Turn.drainLow (h : FRel s0 f) (T : Turn s0 t top a k) (B : TurnB s0 f) {lv : Nat} (L : Low s0 s t lv) (hlv : lv < top) : DrainOk s lv 0 16 := by
  obtain ⟨h1, h2, h3, h4, h5, h6, h7⟩ := T.more h
  have hin : ∀ e ∈ drL s0 lv 0 16, e ∈ lowL s0 top := fun e he => by
    obtain ⟨h8, h9, -⟩ := (h.drMem (by omega) (by omega)).1 he
    exact (h.lowMem (by omega)).2 ⟨h8, lv, hlv, h9⟩
  refine T.drainOk h B L (by omega) (by omega) (fun e he hte => ?_) ?_
  · have := T.low h (hin e he)
    omega
  · obtain ⟨r, hr⟩ := lowL_prefix s0 (show lv + 1 ≤ top by omega)
    rw [lowL_succ] at hr
    have := T.told_len h B
    rw [hr, List.append_assoc, tld_append, List.length_append] at this
    omega

theorem Low.step (h : FRel s0 f) (T : Turn s0 t top a k) {lv : Nat} (L : Low s0 s t lv) (hlv : lv < top) (D : Drained s s' lv 0 16) : Low s0 s' t (lv + 1) := by
  obtain ⟨h1, h2, h3, h4, h5, h6, h7⟩ := T.more h
  have hd : drL s lv 0 16 = drL s0 lv 0 16 := L.same (Nat.le_refl _) (by omega)
  have hall : ∀ e ∈ drL s0 lv 0 16, e ≤ t := fun e he => by
    obtain ⟨h8, h9, -⟩ := (h.drMem (by omega) (by omega)).1 he
    exact T.low h ((h.lowMem (by omega)).2 ⟨h8, lv, hlv, h9⟩)
  refine ⟨D.C.trans L.C, D.pv.trans L.pv, D.ps.trans L.ps, D.m.trans L.m, D.bt.trans L.bt, D.GM.trans L.GM, D.av.trans L.av, D.after.trans L.after, ?_, ?_, fun l d hd' => ?_⟩
  · rw [D.TM, L.m, L.TM, gone_gone, hd, lowL_succ]
  · rw [D.told, L.told, L.GM, L.C, L.m, hd, lowL_succ, tld_append, List.append_assoc]
  · by_cases hl : l = lv
    · subst hl
      rw [D.clean d (Nat.zero_le _) (by omega), if_pos (by omega)]
    · rw [D.SL l d hl, hd, L.m, plc_none hall, L.SL l d hd']
      by_cases h8 : l < lv
      · rw [if_pos h8, if_pos (by omega)]
      · rw [if_neg h8, if_neg (by omega)]

/-- An end beyond the mark, on the way's own level, stands in the slot of the new digit. -/
theorem Turn.beyond (h : FRel s0 f) (T : Turn s0 t top a k) {e : Int} (he : e ∈ drL s0 top a k) (hte : t < e) : Wh.LevIs top (Wh.rk s0.m) (Wh.rk e) ∧ Wh.dig top (Wh.rk e) = Wh.dig top (Wh.rk t) ∧ Wh.levF (Wh.rk t) (Wh.rk e) < top := by
  obtain ⟨h1, h2, h3, h4, h5, h6, h7⟩ := T.more h
  obtain ⟨h8, h9, h10, h11⟩ := (h.drMem h3 h6).1 he
  have hlt := (Wh.rk_lt T.tT (h.tmT h8)).2 hte
  have hk := T.hK
  have hd : Wh.dig top (Wh.rk e) = Wh.dig top (Wh.rk t) := by
    rcases Nat.lt_or_ge (Wh.dig top (Wh.rk e)) (Wh.dig top (Wh.rk t)) with h12 | h12
    · have := Wh.same_ahead h2 h9 h12; omega
    · omega
  obtain ⟨j, hj, hj2⟩ := Wh.same_in h2 h9 hd hlt
  have := hj2.uniq (Wh.levF_is (by omega))
  exact ⟨h9, hd, by omega⟩

theorem Turn.drainTop (h : FRel s0 f) (T : Turn s0 t top a k) (B : TurnB s0 f) (L : Low s0 s t top) : DrainOk s top a k := by
  obtain ⟨h1, h2, h3, h4, h5, h6, h7⟩ := T.more h
  exact T.drainOk h B L h3 h6 (fun e he hte => by have := (T.beyond h he hte).2.2; omega) (T.told_len h B)

/-- What was folded, of what waits alone. -/
def onlyGM (TM : Int → Option Nat) (GM : Int → ByteArray → Option Int) : Int → ByteArray → Option Int := fun e k => if (TM e).isSome = true then GM e k else none

theorem FlowIs.only {w : World} {g : Nat} (h : FlowIs w g s) : FlowIs w g { s with GM := onlyGM s.TM s.GM } :=
  ⟨h.ob.like (fun _ _ => rfl), h.parts, h.tls, fun e b hb => by
    have := h.tal e b hb
    have e1 : onlyGM s.TM s.GM e = s.GM e := by
      funext k
      unfold onlyGM
      rw [if_pos (by rw [hb]; rfl)]
    show TalAt w b (onlyGM s.TM s.GM e)
    rw [e1]
    exact this, h.tin, h.slot, h.sin, h.told, h.late⟩
end
end Go.Proofs.YtgepipnbfgdjkaaGreatDoor
