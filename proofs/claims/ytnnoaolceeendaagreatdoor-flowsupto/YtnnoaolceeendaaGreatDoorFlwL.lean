import Derived.Test.YtnnoaolceeendaaGreatDoorFlwI
import Derived.Test.YtnnoaolceeendaaGreatDoorWhD
namespace Go.Proofs.YtnnoaolceeendaaGreatDoor
open Go.ChangeShapes Go.WideShapes Go.ChangeAt Go.RowKit

/-! ### The flow in memory and the document's flow -/
/-- What the program keeps of a part, and the document's part. -/
structure PtRel (idle : Int) (q : IP) (p : M.Pt) : Prop where
  ended : q.ended = p.ended
  most : q.most = if p.any = true then p.most else -9223372036854775808
  silent : p.ended = false → 0 ≤ p.silent ∧ q.ticks = (if p.silent < 100 then p.silent else 100) ∧ p.idle = (decide (0 < idle) && decide (idle ≤ p.silent))

structure FRel (s : FS) (f : M.Fl ByteArray) : Prop where
  now : s.m = f.now
  told : s.told = f.told
  after : s.after = f.after
  inv : M.Inv ltK s.C.size f
  opn : ∀ e k n, s.GM e k = some n ↔ ∃ p ∈ f.opn, p.stop = e ∧ p.key = k ∧ p.n = n
  tm : ∀ e, (s.TM e).isSome = true ↔ ∃ p ∈ f.opn, p.stop = e
  time : ∀ p ∈ f.opn, Wh.IsT p.stop ∧ Wh.IsT p.start
  slotT : ∀ l d e, l < 16 → d < 16 → e ∈ s.SL l d → Wh.IsT e
  wheel : Wh.Wheel 16 (Wh.rk s.m) (fun x => ∃ e, (s.TM e).isSome = true ∧ Wh.rk e = x) (fun l d => (s.SL l d).map Wh.rk)
  plen : s.ps.length = f.parts.length
  parts : ∀ (i : Nat) q p, s.ps[i]? = some q → f.parts[i]? = some p → PtRel s.C.idle q p

def lowL (s0 : FS) (l : Nat) : List Int := (List.range l).flatMap fun lv => drL s0 lv 0 16
theorem lowL_succ (s0 : FS) (l : Nat) : lowL s0 (l + 1) = lowL s0 l ++ drL s0 l 0 16 := by
  unfold lowL
  rw [List.range_succ, List.flatMap_append]
  simp

theorem gone_gone (t : Int) (TM : Int → Option Nat) (a b : List Int) : gone t (gone t TM a) b = gone t TM (a ++ b) := by
  funext x
  unfold gone
  by_cases h1 : x ∈ b ∧ x ≤ t
  · rw [if_pos h1, if_pos ⟨by simp [h1.1], h1.2⟩]
  · rw [if_neg h1]
    by_cases h2 : x ∈ a ∧ x ≤ t
    · rw [if_pos h2, if_pos ⟨by simp [h2.1], h2.2⟩]
    · rw [if_neg h2, if_neg]
      rintro ⟨h3, h4⟩
      rcases List.mem_append.1 h3 with h5 | h5
      · exact h2 ⟨h5, h4⟩
      · exact h1 ⟨h5, h4⟩
theorem tld_append (GM : Int → ByteArray → Option Int) (size t : Int) (a b : List Int) : tld GM size t (a ++ b) = tld GM size t a ++ tld GM size t b := by
  unfold tld
  rw [List.filter_append, List.flatMap_append]
theorem plc_none {t : Int} {L : List Int} (h : ∀ e ∈ L, e ≤ t) (SL : Nat → Nat → List Int) : plc t SL L = SL := by
  unfold plc
  rw [List.filter_eq_nil_iff.2 (fun e he => by have := h e he; simp; omega)]
  rfl

/-- s: s0 with the mark at t, the levels ahead of l drained. -/
structure Low (s0 s : FS) (t : Int) (l : Nat) : Prop where
  C : s.C = s0.C
  pv : s.pv = s0.pv
  ps : s.ps = s0.ps
  m : s.m = t
  bt : s.bt = s0.bt
  GM : s.GM = s0.GM
  av : s.av = s0.av
  after : s.after = s0.after
  TM : s.TM = gone t s0.TM (lowL s0 l)
  told : s.told = s0.told ++ tld s0.GM s0.C.size t (lowL s0 l)
  SL : ∀ lv d, d < 16 → s.SL lv d = if lv < l then [] else s0.SL lv d

theorem Low.start (s0 : FS) (t : Int) : Low s0 { s0 with m := t } t 0 :=
  ⟨rfl, rfl, rfl, rfl, rfl, rfl, rfl, rfl, by simp [lowL, gone_nil], by simp [lowL, tld], fun _ _ _ => by simp⟩

theorem Low.same {s0 s : FS} {t : Int} {l a k : Nat} (h : Low s0 s t l) {lv : Nat} (hlv : l ≤ lv) (hak : a + k ≤ 16) : drL s lv a k = drL s0 lv a k := by
  unfold drL
  rw [List.flatMap_def, List.flatMap_def]
  congr 1
  refine List.map_congr_left fun d hd => ?_
  have := List.mem_range'_1.1 hd
  rw [h.SL lv d (by omega), if_neg (by omega)]
end Go.Proofs.YtnnoaolceeendaaGreatDoor
namespace Go.Proofs.YtnnoaolceeendaaGreatDoor
open Go.ChangeShapes Go.WideShapes Go.ChangeAt Go.RowKit

/-! ### What a turn tells and leaves -/
theorem sortI_rk {l : List Int} (h : ∀ e ∈ l, Wh.IsT e) : (sortI l).map Wh.rk = Wh.sortN (l.map Wh.rk) := by
  have trI : ∀ a b c : Int, decide (a ≤ b) = true → decide (b ≤ c) = true → decide (a ≤ c) = true := fun a b c h1 h2 => by simp only [decide_eq_true_eq] at *; omega
  have toI : ∀ a b : Int, (decide (a ≤ b) || decide (b ≤ a)) = true := fun a b => by simp only [Bool.or_eq_true, decide_eq_true_eq]; omega
  have trN : ∀ a b c : Nat, decide (a ≤ b) = true → decide (b ≤ c) = true → decide (a ≤ c) = true := fun a b c h1 h2 => by simp only [decide_eq_true_eq] at *; omega
  have toN : ∀ a b : Nat, (decide (a ≤ b) || decide (b ≤ a)) = true := fun a b => by simp only [Bool.or_eq_true, decide_eq_true_eq]; omega
  have hp : (sortI l).Perm l := List.mergeSort_perm _ _
  have hs : (sortI l).Pairwise (fun a b => decide (a ≤ b) = true) := List.pairwise_mergeSort trI toI l
  refine List.Perm.eq_of_pairwise (le := fun a b : Nat => decide (a ≤ b) = true) (fun a b _ _ h1 h2 => by simp only [decide_eq_true_eq] at h1 h2; omega) ?_ (List.pairwise_mergeSort trN toN _) ((hp.map Wh.rk).trans (List.mergeSort_perm _ _).symm)
  rw [List.pairwise_map]
  refine hs.imp_of_mem fun {a b} ha hb hab => ?_
  simp only [decide_eq_true_eq] at hab ⊢
  exact (Wh.rk_le (h a (hp.mem_iff.1 ha)) (h b (hp.mem_iff.1 hb))).2 hab

section
variable {s : FS} {f : M.Fl ByteArray} {t : Int}

theorem FRel.tmT (h : FRel s f) {e : Int} (he : (s.TM e).isSome = true) : Wh.IsT e := by
  obtain ⟨p, hp, rfl⟩ := (h.tm e).1 he
  exact (h.time p hp).1
theorem FRel.mT (h : FRel s f) : Wh.IsT s.m := by rw [h.now]; exact ⟨h.inv.lo, h.inv.hi⟩

/-- Where an end stands. -/
theorem FRel.slot (h : FRel s f) {l d : Nat} (hl : l < 16) (hd : d < 16) {e : Int} : e ∈ s.SL l d ↔ (s.TM e).isSome = true ∧ Wh.LevIs l (Wh.rk s.m) (Wh.rk e) ∧ Wh.dig l (Wh.rk e) = d := by
  have hw := h.wheel.mem l d (Wh.rk e) hl hd
  constructor
  · intro he
    obtain ⟨⟨e', h1, h2⟩, h3, h4⟩ := hw.1 (List.mem_map.2 ⟨e, he, rfl⟩)
    have h5 := Wh.rk_inj (h.tmT h1) (h.slotT l d e hl hd he) h2
    subst h5
    exact ⟨h1, h3, h4⟩
  · rintro ⟨h1, h2, h3⟩
    obtain ⟨e', h4, h5⟩ := List.mem_map.1 (hw.2 ⟨⟨e, h1, rfl⟩, h2, h3⟩)
    have h6 := Wh.rk_inj (h.slotT l d e' hl hd h4) (h.tmT h1) h5
    subst h6
    exact h4

theorem FRel.drMem (h : FRel s f) {l a k : Nat} (hl : l < 16) (hak : a + k ≤ 16) {e : Int} : e ∈ drL s l a k ↔ (s.TM e).isSome = true ∧ Wh.LevIs l (Wh.rk s.m) (Wh.rk e) ∧ a ≤ Wh.dig l (Wh.rk e) ∧ Wh.dig l (Wh.rk e) < a + k := by
  unfold drL
  rw [List.mem_flatMap]
  constructor
  · rintro ⟨d, hd, he⟩
    have hd' := List.mem_range'_1.1 hd
    obtain ⟨h1, h2, h3⟩ := (h.slot hl (by omega)).1 (sortI_mem.1 he)
    exact ⟨h1, h2, by omega, by omega⟩
  · rintro ⟨h1, h2, h3, h4⟩
    exact ⟨_, List.mem_range'_1.2 ⟨h3, h4⟩, sortI_mem.2 ((h.slot hl (by omega)).2 ⟨h1, h2, rfl⟩)⟩

theorem FRel.lowMem (h : FRel s f) {l : Nat} (hl : l ≤ 16) {e : Int} : e ∈ lowL s l ↔ (s.TM e).isSome = true ∧ ∃ lv, lv < l ∧ Wh.LevIs lv (Wh.rk s.m) (Wh.rk e) := by
  unfold lowL
  rw [List.mem_flatMap]
  constructor
  · rintro ⟨lv, hlv, he⟩
    have := List.mem_range.1 hlv
    obtain ⟨h1, h2, -⟩ := (h.drMem (by omega) (by omega)).1 he
    exact ⟨h1, lv, this, h2⟩
  · rintro ⟨h1, lv, h2, h3⟩
    exact ⟨lv, List.mem_range.2 h2, (h.drMem (by omega) (by omega)).2 ⟨h1, h3, Nat.zero_le _, by have := Wh.dig_lt lv (Wh.rk e); omega⟩⟩

theorem flat_map_rk {α β : Type} (r : α → β) (g1 : Nat → List α) (g2 : Nat → List β) : ∀ (l : List Nat), (∀ x ∈ l, (g1 x).map r = g2 x) → (l.flatMap g1).map r = l.flatMap g2
  | [], _ => rfl
  | x :: l, h => by
    rw [List.flatMap_cons, List.flatMap_cons, List.map_append, h x (by simp), flat_map_rk r g1 g2 l (fun y hy => h y (by simp [hy]))]

theorem FRel.drRk (h : FRel s f) {l a k : Nat} (hl : l < 16) (hak : a + k ≤ 16) : (drL s l a k).map Wh.rk = (List.range' a k).flatMap fun d => Wh.sortN ((s.SL l d).map Wh.rk) :=
  flat_map_rk _ _ _ _ fun d hd => by
    have := List.mem_range'_1.1 hd
    exact sortI_rk fun e he => h.slotT l d e hl (by omega) he

theorem FRel.lowRk (h : FRel s f) {l : Nat} (hl : l ≤ 16) : (lowL s l).map Wh.rk = Wh.lowTold (fun l d => (s.SL l d).map Wh.rk) l := by
  unfold lowL Wh.lowTold
  refine flat_map_rk _ _ _ _ fun lv hlv => ?_
  have := List.mem_range.1 hlv
  rw [h.drRk (by omega) (by omega), List.range_eq_range']

/-- A turn's numbers. -/
structure Turn (s : FS) (t : Int) (top a k : Nat) : Prop where
  tT : Wh.IsT t
  lt : s.m < t
  hT : Wh.levF (Wh.rk s.m) (Wh.rk t) = top
  hA : Wh.dig top (Wh.rk s.m) = a
  hK : Wh.dig top (Wh.rk t) + 1 - a = k

theorem Turn.more {top a k : Nat} (h : FRel s f) (T : Turn s t top a k) : Wh.rk s.m < Wh.rk t ∧ Wh.LevIs top (Wh.rk s.m) (Wh.rk t) ∧ top < 16 ∧ a < Wh.dig top (Wh.rk t) ∧ Wh.dig top (Wh.rk t) < 16 ∧ a + k ≤ 16 ∧ 0 < k := by
  have h1 := (Wh.rk_lt h.mT T.tT).2 T.lt
  have h2 : Wh.LevIs top (Wh.rk s.m) (Wh.rk t) := by rw [← T.hT]; exact Wh.levF_is (by omega)
  have h3 : top < 16 := by rw [← T.hT]; exact lev_lt h.mT T.tT (by have := T.lt; omega)
  have h4 := (h2.lt h1).2
  rw [T.hA] at h4
  have h5 := Wh.dig_lt top (Wh.rk t)
  have h6 := T.hK
  exact ⟨h1, h2, h3, h4, h5, by omega, by omega⟩

/-- What stands on the levels below has been passed. -/
theorem Turn.low {top a k : Nat} (h : FRel s f) (T : Turn s t top a k) {e : Int} (he : e ∈ lowL s top) : e ≤ t := by
  obtain ⟨h1, h2, h3, -⟩ := T.more h
  obtain ⟨h4, lv, h5, h6⟩ := (h.lowMem (by omega)).1 he
  have := Wh.below_passed h2 h1 h6 h5
  exact Int.le_of_lt ((Wh.rk_lt (h.tmT h4) T.tT).1 this)

/-- The ends that are told. -/
def endsL (s : FS) (t : Int) (top a k : Nat) : List Int := (lowL s top ++ drL s top a k).filter fun e => decide (e ≤ t)

theorem Turn.ends {top a k : Nat} (h : FRel s f) (T : Turn s t top a k) : (endsL s t top a k).Pairwise (· < ·) ∧ ∀ e, e ∈ endsL s t top a k ↔ (s.TM e).isSome = true ∧ e ≤ t := by
  obtain ⟨h1, h2, h3, h4, h5, h6, h7⟩ := T.more h
  have hall : ∀ e ∈ lowL s top ++ drL s top a k, (s.TM e).isSome = true := fun e he => by
    rcases List.mem_append.1 he with he | he
    · exact ((h.lowMem (by omega)).1 he).1
    · exact ((h.drMem h3 h6).1 he).1
  have hlowf : (lowL s top).filter (fun e => decide (e ≤ t)) = lowL s top := List.filter_eq_self.2 fun e he => by simpa using T.low h he
  have htop : ((drL s top a k).filter (fun e => decide (e ≤ t))).map Wh.rk = Wh.topTold (fun l d => (s.SL l d).map Wh.rk) top (Wh.rk t) a k := by
    unfold Wh.topTold
    rw [← h.drRk h3 h6, List.filter_map]
    congr 1
    refine List.filter_congr fun e he => ?_
    have := Wh.rk_le (h.tmT ((h.drMem h3 h6).1 he).1) T.tT
    simp only [Function.comp, this]
  have hrk : (endsL s t top a k).map Wh.rk = Wh.lowTold (fun l d => (s.SL l d).map Wh.rk) top ++ Wh.topTold (fun l d => (s.SL l d).map Wh.rk) top (Wh.rk t) (Wh.dig top (Wh.rk s.m)) (Wh.dig top (Wh.rk t) + 1 - Wh.dig top (Wh.rk s.m)) := by
    unfold endsL
    rw [List.filter_append, List.map_append, hlowf, h.lowRk (by omega), htop, T.hA, T.hK]
  have hT := Wh.turn_told h.wheel h1 h2 h3
  rw [← hrk] at hT
  have hin : ∀ e ∈ endsL s t top a k, (s.TM e).isSome = true ∧ e ≤ t := fun e he => by
    have := List.mem_filter.1 he
    exact ⟨hall e this.1, by simpa using this.2⟩
  constructor
  · have := hT.1
    rw [List.pairwise_map] at this
    exact this.imp_of_mem fun {x y} hx hy hxy => (Wh.rk_lt (h.tmT (hin x hx).1) (h.tmT (hin y hy).1)).1 hxy
  · intro e
    constructor
    · exact hin e
    · rintro ⟨h8, h9⟩
      have h10 := (hT.2 (Wh.rk e)).2 ⟨⟨e, h8, rfl⟩, (Wh.rk_le (h.tmT h8) T.tT).2 h9⟩
      obtain ⟨e', h11, h12⟩ := List.mem_map.1 h10
      have := Wh.rk_inj (h.tmT (hin e' h11).1) (h.tmT h8) h12
      subst this
      exact h11

theorem FRel.val (h : FRel s f) {p : M.Pn ByteArray} (hp : p ∈ f.opn) : s.GM p.stop p.key = some p.n := (h.opn _ _ _).2 ⟨p, hp, rfl, rfl, rfl⟩

/-- What is told is what is over, in order. -/
theorem Turn.told {top a k : Nat} (h : FRel s f) (T : Turn s t top a k) (hK : ∀ e, (s.TM e).isSome = true → ∃ ks, KeysAre (s.GM e) ks) : tld s.GM s.C.size t (lowL s top ++ drL s top a k) = M.sortP ltK (f.opn.filter fun p => decide (p.stop ≤ t)) := by
  have hE := T.ends h
  have key := M.told_ends soK (t := t) h.inv.opn (endsL s t top a k) hE.1 (fun e => keysL (s.GM e)) (fun e he => by
    obtain ⟨ks, hk⟩ := hK e ((hE.2 e).1 he).1
    rw [keysL_is hk]
    exact hk.rise) (fun e k => (s.GM e k).getD 0) (fun p => ?_)
  · exact key
  · constructor
    · rintro ⟨h1, h2⟩
      have h3 : (s.TM p.stop).isSome = true := (h.tm _).2 ⟨p, h1, rfl⟩
      obtain ⟨ks, hk⟩ := hK _ h3
      refine ⟨(hE.2 _).2 ⟨h3, h2⟩, ?_, ?_, ?_⟩
      · rw [keysL_is hk, hk.mem, h.val h1]; rfl
      · rw [h.val h1]; rfl
      · have := (h.inv.opn.stop p h1).2; omega
    · rintro ⟨h1, h2, h3, h4⟩
      obtain ⟨h5, h6⟩ := (hE.2 _).1 h1
      obtain ⟨ks, hk⟩ := hK _ h5
      rw [keysL_is hk, hk.mem] at h2
      obtain ⟨n, hn⟩ := Option.isSome_iff_exists.1 h2
      rw [hn] at h3
      obtain ⟨q, hq, e1, e2, e3⟩ := (h.opn _ _ _).1 hn
      have e4 := (h.inv.opn.stop q hq).2
      have : q = p := by
        obtain ⟨q1, q2, q3, q4⟩ := q
        obtain ⟨p1, p2, p3, p4⟩ := p
        simp only [Option.getD_some] at *
        subst e1 e2 e3
        rw [h3, h4]
        congr 1
        omega
      subst this
      exact ⟨hq, h6⟩
end
end Go.Proofs.YtnnoaolceeendaaGreatDoor
