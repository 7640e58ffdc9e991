import Derived.Test.YtgepipnbfgdjkaaGreatDoorFlwI
import Derived.Test.YtgepipnbfgdjkaaGreatDoorWhD
namespace Go.Proofs.YtgepipnbfgdjkaaGreatDoor
open Go.ChangeShapes Go.WideShapes Go.ChangeAt Go.RowKit

/-! ### The flow in memory and the document's flow -/
/-- What the program keeps of a part, and the document's part. -/
structure PtRel (idle : Int) (q : IP) (p : M.Pt) : Prop where
  ended : q.ended = p.ended
  most : q.most = if p.any = true then p.most else -9223372036854775808
  silent : p.ended = false → 0 ≤ p.silent ∧ q.ticks = (if p.silent < 100 then p.silent else 100) ∧ p.idle = (decide (0 < idle) && decide (idle ≤ p.silent))

structure FRel (s : FS) (f : M.Fl ByteArray) : Prop where
  now : s.m = f.now
  told : s.told = f.told
  after : s.after = f.after
  inv : M.Inv ltK s.C.size f
  opn : ∀ e k n, s.GM e k = some n ↔ ∃ p ∈ f.opn, p.stop = e ∧ p.key = k ∧ p.n = n
  tm : ∀ e, (s.TM e).isSome = true ↔ ∃ p ∈ f.opn, p.stop = e
  time : ∀ p ∈ f.opn, Wh.IsT p.stop ∧ Wh.IsT p.start
  slotT : ∀ l d e, l < 16 → d < 16 → e ∈ s.SL l d → Wh.IsT e
  wheel : Wh.Wheel 16 (Wh.rk s.m) (fun x => ∃ e, (s.TM e).isSome = true ∧ Wh.rk e = x) (fun l d => (s.SL l d).map Wh.rk)
  plen : s.ps.length = f.parts.length
  parts : ∀ (i : Nat) q p, s.ps[i]? = some q → f.parts[i]? = some p → PtRel s.C.idle q p

def lowL (s0 : FS) (l : Nat) : List Int := (List.range l).flatMap fun lv => drL s0 lv 0 16
theorem lowL_succ (s0 : FS) (l : Nat) : lowL s0 (l + 1) = lowL s0 l ++ drL s0 l 0 16 := by
  unfold lowL
  rw [List.range_succ, List.flatMap_append]
  simp

theorem gone_gone (t : Int) (TM : Int → Option Nat) (a b : List Int) : gone t (gone t TM a) b = gone t TM (a ++ b) := by
  funext x
  unfold gone
  by_cases h1 : x ∈ b ∧ x ≤ t
  · rw [if_pos h1, if_pos ⟨by simp [h1.1], h1.2⟩]
  · rw [if_neg h1]
    by_cases h2 : x ∈ a ∧ x ≤ t
    · rw [if_pos h2, if_pos ⟨by simp [h2.1], h2.2⟩]
    · rw [if_neg h2, if_neg]
      rintro ⟨h3, h4⟩
      rcases List.mem_append.1 h3 with h5 | h5
      · exact h2 ⟨h5, h4⟩
      · exact h1 ⟨h5, h4⟩
theorem tld_append (GM : Int → ByteArray → Option Int) (size t : Int) (a b : List Int) : tld GM size t (a ++ b) = tld GM size t a ++ tld GM size t b := by
  unfold tld
  rw [List.filter_append, List.flatMap_append]
theorem plc_none {t : Int} {L : List Int} (h : ∀ e ∈ L, e ≤ t) (SL : Nat → Nat → List Int) : plc t SL L = SL := by
  unfold plc
  rw [List.filter_eq_nil_iff.2 (fun e he => by have := h e he; simp; omega)]
  rfl

/-- s: s0 with the mark at t, the levels ahead of l drained. -/
structure Low (s0 s : FS) (t : Int) (l : Nat) : Prop where
  C : s.C = s0.C
  pv : s.pv = s0.pv
  ps : s.ps = s0.ps
  m : s.m = t
  bt : s.bt = s0.bt
  GM : s.GM = s0.GM
  av : s.av = s0.av
  after : s.after = s0.after
  TM : s.TM = gone t s0.TM (lowL s0 l)
  told : s.told = s0.told ++ tld s0.GM s0.C.size t (lowL s0 l)
  SL : ∀ lv d, d < 16 → s.SL lv d = if lv < l then [] else s0.SL lv d

theorem Low.start (s0 : FS) (t : Int) : Low s0 { s0 with m := t } t 0 :=
  ⟨rfl, rfl, rfl, rfl, rfl, rfl, rfl, rfl, by simp [lowL, gone_nil], by simp [lowL, tld], fun _ _ _ => by simp⟩

theorem Low.same {s0 s : FS} {t : Int} {l a k : Nat} (h : Low s0 s t l) {lv : Nat} (hlv : l ≤ lv) (hak : a + k ≤ 16) : drL s lv a k = drL s0 lv a k := by
  unfold drL
  rw [List.flatMap_def, List.flatMap_def]
  congr 1
  refine List.map_congr_left fun d hd => ?_
  have := List.mem_range'_1.1 hd
  rw [h.SL lv d (by omega), if_neg (by omega)]
end Go.Proofs.YtgepipnbfgdjkaaGreatDoor
