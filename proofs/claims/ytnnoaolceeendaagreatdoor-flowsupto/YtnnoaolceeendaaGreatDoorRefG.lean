import Derived.Test.YtnnoaolceeendaaGreatDoorRefF
namespace Go.Proofs.YtnnoaolceeendaaGreatDoor
open Go.ChangeShapes Go.WideShapes Go.ChangeAt Go.RowKit

/-! ### The mark, part by part -/
def lstep (bound m : Int) (p : M.Pt) : Int := if p.ended = false ∧ p.idle = false ∧ M.allows bound p < m then M.allows bound p else m

theorem lstep_fold (bound : Int) : ∀ (ps : List M.Pt) (m : Int), m ≤ M.maxT → ps.foldl (lstep bound) m = (if M.leastOf bound ps < m then M.leastOf bound ps else m)
  | [], m, h => by
    rw [M.leastOf, if_neg (by omega)]
    rfl
  | p :: ps, m, h => by
    rw [List.foldl_cons, lstep_fold bound ps (lstep bound m p) (by unfold lstep; split <;> omega), M.leastOf]
    unfold lstep
    generalize M.leastOf bound ps = L
    generalize M.allows bound p = A
    by_cases c : p.ended = false ∧ p.idle = false
    · simp only [c.1, c.2, true_and]
      (repeat' split) <;> omega
    · have n1 : ¬ (p.ended = false ∧ p.idle = false ∧ A < m) := fun h => c ⟨h.1, h.2.1⟩
      have n2 : ¬ (p.ended = false ∧ p.idle = false ∧ A < L) := fun h => c ⟨h.1, h.2.1⟩
      rw [if_neg n1, if_neg n2]

theorem least_fold (bound : Int) (ps : List M.Pt) : ps.foldl (lstep bound) M.maxT = M.leastOf bound ps := by
  rw [lstep_fold bound ps _ (Int.le_refl _)]
  have := M.leastOf_le bound ps
  split <;> omega

theorem take_snoc' {α : Type} {l : List α} {k : Nat} {x : α} (h : l[k]? = some x) : l.take (k + 1) = l.take k ++ [x] := by
  have hk := List.getElem?_eq_some_iff.1 h
  rw [List.take_succ_eq_append_getElem hk.1, hk.2]

def mostOk (ps : List M.Pt) : Prop := ∀ p ∈ ps, -9223372036854775808 ≤ p.most ∧ p.most ≤ 9223372036854775807

theorem rallows_at (g : Nat) (bound : Int) (an en id : Bool) (mo si : Int) (w : World) (hb : w.cell? ⟨g, 2, none⟩ = some (.int .i64 bound)) (b0 : 0 ≤ bound) (b1 : bound ≤ 1000) (m0 : -9223372036854775808 ≤ mo) (m1 : mo ≤ 9223372036854775807) :
    Calls Tryz.prog 112 #[.pointer (some ⟨g, 0, none⟩), .agg #[.bool an, .int .i64 mo, .bool en, .bool id, .int .i64 si]] w fun r w' => r = .returned (.int .i64 (M.allows bound ⟨an, mo, en, id, si⟩)) ∧ Below w.heap.size w w' :=
  rallows_any g bound ⟨an, mo, en, id, si⟩ w hb b0 b1 m0 m1

set_option maxRecDepth 100000 in
set_option maxHeartbeats 2000000 in
theorem rmark_any (g : Nat) (C : Cf) (f : M.Fl ByteArray) (pv ov tv av : Value) (w : World) (hr : RefAt w g C f pv ov tv av) (b0 : 0 ≤ C.bound) (b1 : C.bound ≤ 1000) (hm : mostOk f.parts) (hl8 : f.parts.length ≤ 8) :
    Calls Tryz.prog 77 #[.pointer (some ⟨g, 0, none⟩)] w fun r w' => r = .returned (.int .i64 (M.markOf C.bound f.now f.parts)) ∧ Below w.heap.size w w' := by
  obtain ⟨a0, cap, rfl⟩ := hr.parts.slice
  have hlt := lt_of_block hr.obj
  have HR := hideP hr
  have HM := hideP hm
  clear hr hm
  go_enter Tryz.func77, Tryz.ntmps77
  go_wp2
  go_loopw [3, 4, 5, 6] (fun al an le i wr => ∃ (k : Nat) (ba bn : Bool) (m : Int), k ≤ f.parts.length ∧ i = .int .i64 k ∧ al = .bool ba ∧ an = .bool bn ∧ le = .int .i64 m ∧ Hid (ba = M.allOf (f.parts.take k)) ∧ Hid (bn = M.anyOf (f.parts.take k)) ∧ Hid (m = (f.parts.take k).foldl (lstep C.bound) M.maxT) ∧ Hid (Below w.heap.size w wr))
    (fun _ _ _ i _ => f.parts.length - (intOf i).toNat)
  case atStart => exact ⟨0, true, false, _, Nat.zero_le _, rfl, rfl, rfl, rfl, rfl, rfl, rfl, Below.refl _ _⟩
  case round =>
    obtain ⟨k, ba, bn, m, hk, rfl, rfl, rfl, rfl, HA, HN, HL, HB⟩ := hrel
    have hbz := HB.out.size
    have R := HR.out.below HB.out
    obtain ⟨_, _, c2, _, _, _, c6, c7, _⟩ := R.cells
    have RP := hideP R.parts
    clear R
    by_cases hlt2 : k < f.parts.length
    · obtain ⟨x, hx⟩ : ∃ x, f.parts[k]? = some x := ⟨_, List.getElem?_eq_getElem hlt2⟩
      have HX := hideP hx
      obtain ⟨pb, cp, ev, _, hpb, e0, e1, e2, e3, e4⟩ := pt_at RP.out hx
      simp only [Value.slice.injEq] at ev
      obtain ⟨rfl, _, rfl⟩ := ev
      have hxm := HM.out x (List.mem_of_getElem? hx)
      obtain ⟨hx1, hx2⟩ := hxm
      have i1 : (0 : Int) ≤ (k : Int) := by omega
      have i2 : (k : Int) < (f.parts.length : Int) := by omega
      clear hx
      have HT := hideP (take_snoc' HX.out)
      cases hen : x.ended
      · have HA' : Hid (false = M.allOf (f.parts.take (k + 1))) := by
          show _ = _
          rw [HT.out]; simp [M.allOf, hen]
        cases hid : x.idle
        · have HN' : Hid (true = M.anyOf (f.parts.take (k + 1))) := by
            show _ = _
            rw [HT.out]; simp [M.anyOf, hen, hid]
          have eA : ∀ en id, M.allows C.bound ⟨x.any, x.most, en, id, x.silent⟩ = M.allows C.bound x := fun _ _ => rfl
          generalize hA : M.allows C.bound x = A at eA
          have HAl := hideP hA
          clear hA
          by_cases hlm : A < m
          · have HL' : Hid (A = (f.parts.take (k + 1)).foldl (lstep C.bound) M.maxT) := by
              show _ = _
              rw [HT.out, List.foldl_append, ← HL.out]; simp [lstep, hen, hid, hlm, HAl.out]
            cases ba
            all_goals
              go_wp2_with (go_at_call 112; refine (rallows_at g C.bound _ _ _ _ _ _ (by exact keepAt (Below.alloc (Below.refl _ _) (Nat.le_refl _) _) (by omega) c2) b0 b1 hx1 hx2).mono ?_; rintro r w1 ⟨rfl, hb1⟩)
              go_roundw
              case rel => exact ⟨k + 1, _, _, _, by omega, by go_num, rfl, rfl, rfl, HA', HN', HL', (HB.out.alloc (by omega) _).trans (hb1.mono (by simp; omega))⟩
              case measure => simp [intOf]; omega
          · have HL' : Hid (m = (f.parts.take (k + 1)).foldl (lstep C.bound) M.maxT) := by
              show _ = _
              rw [HT.out, List.foldl_append, ← HL.out]; simp [lstep, hlm, HAl.out]
            cases ba
            all_goals
              go_wp2_with (go_at_call 112; refine (rallows_at g C.bound _ _ _ _ _ _ (by exact keepAt (Below.alloc (Below.refl _ _) (Nat.le_refl _) _) (by omega) c2) b0 b1 hx1 hx2).mono ?_; rintro r w1 ⟨rfl, hb1⟩)
              go_roundw
              case rel => exact ⟨k + 1, _, _, _, by omega, by go_num, rfl, rfl, rfl, HA', HN', HL', (HB.out.alloc (by omega) _).trans (hb1.mono (by simp; omega))⟩
              case measure => simp [intOf]; omega
        · have HN' : Hid (bn = M.anyOf (f.parts.take (k + 1))) := by
            show _ = _
            rw [HT.out, HN.out]; simp [M.anyOf, hid]
          have HL' : Hid (m = (f.parts.take (k + 1)).foldl (lstep C.bound) M.maxT) := by
            show _ = _
            rw [HT.out, List.foldl_append, ← HL.out]; simp [lstep, hid]
          cases ba
          all_goals
            go_wp2
            go_roundw
            case rel => exact ⟨k + 1, _, _, _, by omega, by go_num, rfl, rfl, rfl, HA', HN', HL', HB.out.alloc (by omega) _⟩
            case measure => simp [intOf]; omega
      · have HA' : Hid (ba = M.allOf (f.parts.take (k + 1))) := by
          show _ = _
          rw [HT.out, HA.out]; simp [M.allOf, hen]
        have HN' : Hid (bn = M.anyOf (f.parts.take (k + 1))) := by
          show _ = _
          rw [HT.out, HN.out]; simp [M.anyOf, hen]
        have HL' : Hid (m = (f.parts.take (k + 1)).foldl (lstep C.bound) M.maxT) := by
          show _ = _
          rw [HT.out, List.foldl_append, ← HL.out]; simp [lstep, hen]
        cases ba
        all_goals
          go_wp2
          go_roundw
          case rel => exact ⟨k + 1, _, _, _, by omega, by go_num, rfl, rfl, rfl, HA', HN', HL', HB.out.alloc (by omega) _⟩
          case measure => simp [intOf]; omega
    · have ek : f.parts.take k = f.parts := List.take_of_length_le (by omega)
      have HA2 : Hid (M.allOf f.parts = ba) := by show _ = _; rw [HA.out, ek]
      have HN2 : Hid (M.anyOf f.parts = bn) := by show _ = _; rw [HN.out, ek]
      have HL2 : Hid (M.leastOf C.bound f.parts = m) := by show _ = _; rw [HL.out, ek, least_fold]
      clear ek
      cases ba
      · cases bn
        · have E : Hid (M.markOf C.bound f.now f.parts = f.now) := by simp [Hid, M.markOf, HA2.out, HN2.out]
          go_wp2
          go_ret
          exact ⟨by rw [E.out]; rfl, HB.out⟩
        · by_cases hg : f.now < m
          · have E : Hid (M.markOf C.bound f.now f.parts = m) := by simp [Hid, M.markOf, HA2.out, HN2.out, HL2.out, hg]
            go_wp2
            go_ret
            exact ⟨by rw [E.out]; rfl, HB.out⟩
          · have E : Hid (M.markOf C.bound f.now f.parts = f.now) := by simp [Hid, M.markOf, HA2.out, HN2.out, HL2.out, hg]
            go_wp2
            go_ret
            exact ⟨by rw [E.out]; rfl, HB.out⟩
      · have E : Hid (M.markOf C.bound f.now f.parts = 9223372036854775807) := by simp [Hid, M.markOf, HA2.out, M.maxT]
        go_wp2
        go_ret
        exact ⟨by rw [E.out]; rfl, HB.out⟩
end Go.Proofs.YtnnoaolceeendaaGreatDoor
