import Derived.Test.YtnnoaolceeendaaGreatDoorFlwO
import Derived.Test.YtnnoaolceeendaaGreatDoorRefK
namespace Go.Proofs.YtnnoaolceeendaaGreatDoor
open Go.ChangeShapes Go.WideShapes Go.ChangeAt Go.RowKit

set_option maxHeartbeats 2000000 in
theorem isIdle_any (k i : Int) (w : World) : Calls Tryz.prog 109 #[.agg #[.int .i64 k], .int .i64 i] w fun r w' => r = .returned (.bool (decide (0 < i) && decide (i ≤ k))) ∧ Below w.heap.size w w' := by
  by_cases h0 : 0 < i
  · by_cases h1 : i ≤ k
    · go_enter Tryz.func109, Tryz.ntmps109
      go_wp2
      go_ret
      exact ⟨by simp [h0, h1], (Below.refl _ _).alloc (Nat.le_refl _) _⟩
    · go_enter Tryz.func109, Tryz.ntmps109
      go_wp2
      go_ret
      exact ⟨by simp; omega, (Below.refl _ _).alloc (Nat.le_refl _) _⟩
  · go_enter Tryz.func109, Tryz.ntmps109
    go_wp2
    go_ret
    exact ⟨by simp; omega, (Below.refl _ _).alloc (Nat.le_refl _) _⟩

/-! ### What the parts allow, gone through from the first on -/
theorem leastOf_cons (bound : Int) (p : M.Pt) (r : List M.Pt) : M.leastOf bound (p :: r) = if p.ended = false ∧ p.idle = false then min (M.allows bound p) (M.leastOf bound r) else M.leastOf bound r := by
  show (if p.ended = false ∧ p.idle = false ∧ M.allows bound p < M.leastOf bound r then M.allows bound p else M.leastOf bound r) = _
  by_cases h : p.ended = false ∧ p.idle = false
  · rw [if_pos h]
    by_cases h2 : M.allows bound p < M.leastOf bound r
    · rw [if_pos ⟨h.1, h.2, h2⟩]; omega
    · rw [if_neg (fun hx => h2 hx.2.2)]; omega
  · rw [if_neg h, if_neg (fun hx => h ⟨hx.1, hx.2.1⟩)]
theorem leastOf_snoc (bound : Int) (p : M.Pt) : ∀ ps : List M.Pt, M.leastOf bound (ps ++ [p]) = if p.ended = false ∧ p.idle = false then min (M.leastOf bound ps) (M.allows bound p) else M.leastOf bound ps
  | [] => by
    rw [List.nil_append, leastOf_cons]
    by_cases h : p.ended = false ∧ p.idle = false
    · rw [if_pos h, if_pos h]; omega
    · rw [if_neg h, if_neg h]
  | q :: ps => by
    rw [List.cons_append, leastOf_cons, leastOf_cons, leastOf_snoc bound p ps]
    by_cases h : p.ended = false ∧ p.idle = false
    · rw [if_pos h, if_pos h]
      by_cases h2 : q.ended = false ∧ q.idle = false
      · rw [if_pos h2, if_pos h2]; omega
      · rw [if_neg h2, if_neg h2]
    · rw [if_neg h, if_neg h]
theorem anyOf_snoc (p : M.Pt) (ps : List M.Pt) : M.anyOf (ps ++ [p]) = (M.anyOf ps || (!p.ended && !p.idle)) := by simp [M.anyOf]
theorem allOf_snoc (p : M.Pt) (ps : List M.Pt) : M.allOf (ps ++ [p]) = (M.allOf ps && p.ended) := by simp [M.allOf]

/-- What a part allows, by what the program keeps of it. -/
theorem allows_is {idle bound : Int} {q : IP} {p : M.Pt} (h : PtRel idle q p) : (if q.most < -9223372036854775808 + bound then -9223372036854775808 else q.most - bound) = M.allows bound p ∨ bound < 0 := by
  rcases Int.lt_or_le bound 0 with hb | hb
  · exact .inr hb
  · refine .inl ?_
    rw [h.most]
    unfold M.allows M.minT
    cases ha : p.any
    · simp only [Bool.false_eq_true, if_false, true_or, if_true]
      split <;> omega
    · simp only [if_true, Bool.true_eq_false, false_or]
theorem idle_is {idle : Int} {q : IP} {p : M.Pt} (h : PtRel idle q p) (he : p.ended = false) (h1 : idle ≤ 100) : (decide (0 < idle) && decide (idle ≤ q.ticks)) = p.idle := by
  obtain ⟨h2, h3, h4⟩ := h.silent he
  rw [h4, h3]
  congr 1
  rw [decide_eq_decide]
  split <;> omega

def allowI (bound now : Int) (ps : List M.Pt) : Int := if M.allOf ps = true ∨ M.anyOf ps = true then M.leastOf bound ps else now

theorem leastOf_all {bound : Int} : ∀ {ps : List M.Pt}, M.anyOf ps = false → M.leastOf bound ps = M.maxT
  | [], _ => rfl
  | p :: ps, h => by
    simp only [M.anyOf, List.any_cons, Bool.or_eq_false_iff] at h
    have ih := leastOf_all (bound := bound) (ps := ps) (by simpa [M.anyOf] using h.2)
    rw [leastOf_cons, ih, if_neg]
    rintro ⟨h1, h2⟩
    simp [h1, h2] at h

theorem onward_allow {bound now : Int} {ps : List M.Pt} (h : now ≤ M.maxT) : onward now (allowI bound now ps) = M.markOf bound now ps := by
  unfold M.markOf
  by_cases h1 : M.allOf ps = true
  · have h2 : M.anyOf ps = false := by
      rw [M.anyOf, List.any_eq_false]
      intro p hp
      have := List.all_eq_true.1 h1 p hp
      simp [this]
    have e : allowI bound now ps = M.maxT := by rw [allowI, if_pos (.inl h1), leastOf_all h2]
    rw [e, if_pos h1, onward]
    split <;> omega
  · rw [if_neg h1]
    by_cases h3 : M.anyOf ps = true
    · have e : allowI bound now ps = M.leastOf bound ps := by rw [allowI, if_pos (.inr h3)]
      rw [e, onward]
      by_cases h4 : now < M.leastOf bound ps
      · rw [if_pos h4, if_pos ⟨h3, h4⟩]
      · rw [if_neg h4, if_neg (fun hx => h4 hx.2)]
    · have e : allowI bound now ps = now := by rw [allowI, if_neg (fun hx => hx.elim h1 h3)]
      rw [e, onward, if_neg (by omega), if_neg (fun hx => h3 hx.1)]

theorem FlObj.at2 {w : World} {g : Nat} {s : FS} (h : FlObj w g s) : w.cell? ⟨g, 2, none⟩ = some (.int .i64 s.C.bound) := h.cell (by omega)
theorem FlObj.at3 {w : World} {g : Nat} {s : FS} (h : FlObj w g s) : w.cell? ⟨g, 3, none⟩ = some (.int .i64 s.C.idle) := h.cell (by omega)
theorem FlObj.at6 {w : World} {g : Nat} {s : FS} (h : FlObj w g s) : w.cell? ⟨g, 6, none⟩ = some s.pv := h.cell (by omega)

theorem min_w (a b : Int) : (if a ≤ b then a else b) = min a b := by split <;> omega

set_option maxRecDepth 100000 in
set_option maxHeartbeats 4000000 in
theorem allowed_any (g : Nat) (s : FS) (f : M.Fl ByteArray) (w : World) (h : FlowIs w g s) (hR : FRel s f) (hm : ∀ q ∈ s.ps, Wh.IsT q.most) (hn : s.ps.length ≤ 8) (b0 : 0 ≤ s.C.bound) (b1 : s.C.bound ≤ 1000) (d1 : s.C.idle ≤ 100) :
    Calls Tryz.prog 73 #[.pointer (some ⟨g, 0, none⟩)] w fun r w' => r = .returned (.int .i64 (allowI s.C.bound s.m f.parts)) ∧ Below w.heap.size w w' := by
  have c2 := h.ob.at2
  have c3 := h.ob.at3
  have c6 := h.ob.at6
  have c7 := h.ob.at7
  have hgz := h.ob.lt
  obtain ⟨pa, pc, hsl⟩ := h.parts.slice
  rw [hsl] at c6
  have HP := hideP h.parts
  rw [hsl] at HP
  have HR := hideP hR
  have HM := hideP hm
  have hpl := hR.plen
  have HPL := hideP hpl
  clear h hR hm hsl hpl
  go_enter Tryz.func73, Tryz.ntmps73
  go_wp2
  go_loopw [3, 4, 5, 13] (fun le al he ii wr => ∃ k : Nat, k ≤ s.ps.length ∧ ii = .int .i64 k ∧ le = .int .i64 (M.leastOf s.C.bound (f.parts.take k)) ∧ al = .bool (M.allOf (f.parts.take k)) ∧ he = .bool (M.anyOf (f.parts.take k)) ∧ Hid (Below w.heap.size w wr)) (fun _ _ _ ii _ => s.ps.length - (intOf ii).toNat)
  case atStart => exact ⟨0, Nat.zero_le _, rfl, rfl, rfl, rfl, Below.refl _ _⟩
  case round =>
    obtain ⟨k, hk, rfl, rfl, rfl, rfl, HB⟩ := hrel
    by_cases hlt : k < s.ps.length
    · obtain ⟨q, hq⟩ : ∃ e, s.ps[k]? = some e := ⟨_, List.getElem?_eq_getElem hlt⟩
      obtain ⟨p, hp⟩ : ∃ e, f.parts[k]? = some e := ⟨_, List.getElem?_eq_getElem (by rw [← HPL.out]; exact hlt)⟩
      have PR := hideP (HR.out.parts k q p hq hp)
      have hqT := HM.out q (List.mem_of_getElem? hq)
      obtain ⟨pb, cap, ev, -, hpb, hc, -⟩ := (HP.out.below HB.out).at ipC_len hq
      simp only [Value.slice.injEq] at ev
      obtain ⟨rfl, -, rfl⟩ := ev
      have m0 : wr.cell? ⟨pb, k * 3, none⟩ = some (.int .i64 q.ticks) := (hc 0 (by omega)).trans rfl
      have m1 : wr.cell? ⟨pb, k * 3 + 1, none⟩ = some (.int .i64 q.most) := (hc 1 (by omega)).trans rfl
      have m2 : wr.cell? ⟨pb, k * 3 + 2, none⟩ = some (.bool q.ended) := (hc 2 (by omega)).trans rfl
      have k2 := keepAt HB.out hgz c2
      have k3 := keepAt HB.out hgz c3
      have HTk := hideP (take_snoc' hp)
      have i1 : (0 : Int) ≤ (k : Int) := by omega
      have i2 : (k : Int) < (s.ps.length : Int) := by omega
      have hbz := HB.out.size
      clear hq hp hc
      obtain ⟨be, hbe⟩ : ∃ b, q.ended = b := ⟨_, rfl⟩
      rw [hbe] at m2
      cases be
      · have hpe : p.ended = false := by rw [← PR.out.ended]; exact hbe
        have HID := hideP (idle_is PR.out hpe d1)
        have HAL : Hid ((if q.most < -9223372036854775808 + s.C.bound then -9223372036854775808 else q.most - s.C.bound) = M.allows s.C.bound p) := (allows_is PR.out).resolve_right (by omega)
        clear hbe
        have hA : Below wr.heap.size wr (wr.alloc (.cells #[.int .i64 q.ticks, .int .i64 q.most, .bool false] 112)) := (Below.refl _ _).alloc (Nat.le_refl _) _
        have n2 := keepAt hA (by omega) k2
        have n3 := keepAt hA (by omega) k3
        have hA2 := hideP hA
        clear hA
        go_wp2_with fail
        generalize hwn : wr.alloc (.cells #[.int .i64 q.ticks, .int .i64 q.most, .bool false] 112) = wn at *
        have a0 : wn.cell? ⟨wr.heap.size, 0, none⟩ = some (.int .i64 q.ticks) := by rw [← hwn]; exact World.cell?_alloc_new ..
        have a1 : wn.cell? ⟨wr.heap.size, 1, none⟩ = some (.int .i64 q.most) := by rw [← hwn]; exact World.cell?_alloc_new ..
        have hnz : wn.heap.size = wr.heap.size + 1 := by rw [← hwn]; simp
        have HN := hideP hnz
        clear hwn hnz
        go_cut [27] (fun d wx => d = .bool (!p.idle) ∧ Hid (Below wn.heap.size wn wx))
        case first =>
          go_region_with (go_at_call 109; refine (isIdle_any _ _ _).mono ?_; rintro r w1 ⟨rfl, hb1⟩)
          all_goals
            go_wp2_with fail
            go_meet
            exact ⟨by rw [← HID.out, Bool.not_and], ⟨hb1.os, hb1.tape, hb1.output, hb1.size, hb1.block⟩⟩
        case rest =>
          obtain ⟨rfl, HB2⟩ := hcut
          have x2 := keepAt HB2.out (by have := HN.out; omega) n2
          have x1 := keepAt HB2.out (by have := HN.out; omega) a1
          have HB3 := hideP ((HB.out.trans (hA2.out.mono hbz)).trans (HB2.out.mono (by have := HN.out; omega)))
          have HL := hideP (leastOf_snoc s.C.bound p (f.parts.take k))
          have HAN := hideP (anyOf_snoc p (f.parts.take k))
          have HALL := hideP (allOf_snoc p (f.parts.take k))
          obtain ⟨bi, hbi⟩ : ∃ b, p.idle = b := ⟨_, rfl⟩
          have HBI := hideP hbi
          rw [hbi]
          clear hbi
          cases bi
          · have LE := hideP (fun w => less_any q.most s.C.bound w hqT b0 b1)
            rw [HAL.out] at LE
            go_wp2_with fail
            go_quiet ((go_at_call 91; exact Calls.quiet_of_same (LE.out _)))
            have HB4 := hideP (HB3.out.trans ((drawn_below nq).mono HB3.out.size))
            go_wp2
            go_roundw
            case rel =>
              refine ⟨k + 1, by omega, by go_num, ?_, ?_, ?_, HB4⟩
              · rw [HTk.out, HL.out, if_pos ⟨hpe, HBI.out⟩]
              · rw [HTk.out, HALL.out, hpe]; simp
              · rw [HTk.out, HAN.out, hpe, HBI.out]; simp
            case measure => simp [intOf]; omega
          · go_wp2
            go_roundw
            case rel =>
              refine ⟨k + 1, by omega, by go_num, ?_, ?_, ?_, HB3⟩
              · rw [HTk.out, HL.out, if_neg (fun hx => by rw [HBI.out] at hx; cases hx.2)]
              · rw [HTk.out, HALL.out, hpe]; simp
              · rw [HTk.out, HAN.out, hpe, HBI.out]; simp
            case measure => simp [intOf]; omega
      · have hpe : p.ended = true := by rw [← PR.out.ended]; exact hbe
        have HL := hideP (leastOf_snoc s.C.bound p (f.parts.take k))
        have HAN := hideP (anyOf_snoc p (f.parts.take k))
        have HALL := hideP (allOf_snoc p (f.parts.take k))
        clear hbe
        go_wp2
        go_roundw
        case rel =>
          refine ⟨k + 1, by omega, by go_num, ?_, ?_, ?_, HB.out.alloc hbz _⟩
          · rw [HTk.out, HL.out, if_neg (fun hx => by rw [hpe] at hx; cases hx.1)]
          · rw [HTk.out, HALL.out, hpe]; simp
          · rw [HTk.out, HAN.out, hpe]; simp
        case measure => simp [intOf]; omega
    · have ek : k = f.parts.length := by rw [← HPL.out]; omega
      have HTk : Hid (f.parts.take k = f.parts) := by rw [ek]; exact List.take_length
      rw [HTk.out]
      clear ek
      have k7 := keepAt HB.out hgz c7
      obtain ⟨ba, hba⟩ : ∃ b, M.allOf f.parts = b := ⟨_, rfl⟩
      obtain ⟨bh, hbh⟩ : ∃ b, M.anyOf f.parts = b := ⟨_, rfl⟩
      have H1 := hideP hba
      have H2 := hideP hbh
      rw [hba, hbh]
      clear hba hbh
      cases ba <;> cases bh
      all_goals
        go_wp2
        go_ret
        refine ⟨?_, HB.out⟩
        simp [allowI, H1.out, H2.out]
end Go.Proofs.YtnnoaolceeendaaGreatDoor
