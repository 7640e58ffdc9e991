import Derived.Test.YtnnoaolceeendaaGreatDoorFlwS
import Derived.Test.YtnnoaolceeendaaGreatDoorFlwT
namespace Go.Proofs.YtnnoaolceeendaaGreatDoor
open Go.ChangeShapes Go.WideShapes Go.ChangeAt Go.RowKit

/-- A late event kept. -/
theorem FlowIs.lating {w w' : World} {g : Nat} {s : FS} (h : FlowIs w g s) {v' : Value} {l : List (M.Ev ByteArray)} (hr : RowIs evC w' 0 54 4 v' l) (ht : Touch (fun k => s.av.ownBlock = some k) w w') (hv : ∀ k, v'.ownBlock = some k → s.av.ownBlock = some k ∨ w.heap.size ≤ k) :
    Way w (w'.setCell ⟨g, 266, none⟩ v') g s { s with av := v', after := l } := by
  have hk : ∀ K k, K ≠ .event → kd g s K k → w'.heap[k]? = w.heap[k]? := fun K k hK hk => ht.block k (h.foot_lt (foot_kd.2 ⟨K, hk⟩)) (fun hx => hK (kd_inj h hk (show kd g s .event k from hx)))
  have hg : ∀ K k, K ≠ .event → K ≠ .flow → kd g s K k → (w'.setCell ⟨g, 266, none⟩ v').heap[k]? = w.heap[k]? := fun K k hK hF hk' => by
    rw [Below.heap_setCell w' ⟨g, 266, none⟩ v' k (fun e => hF (kd_inj h hk' (show kd g s .flow k from e)))]
    exact hk K k hK hk'
  have hvg : ∀ k, v'.ownBlock = some k → k ≠ g := fun k hk' => by
    rcases hv k hk' with h1 | h1
    · exact fun e => by have := kd_inj h (show kd g s .event k from h1) (show kd g s .flow k from e); cases this
    · have := h.ob.lt; omega
  refine ⟨⟨(h.ob.agree (hk .flow g (by simp) rfl)).setAfter v' l, h.parts.agree (fun k hk' => hg .part k (by simp) (by simp) hk'), h.tls.agree (hg .tls _ (by simp) (by simp) rfl), fun x b hb => (h.tal x b hb).agree (hg (.tal x) b (by simp) (by simp) hb), h.tin, fun a b ha hb => (h.slot a b ha hb).agree (fun k hk' => hg (.slot a b) k (by simp) (by simp) ⟨ha, hb, hk'⟩), h.sin,
    h.told.agree (fun k hk' => hg .pane k (by simp) (by simp) hk'), hr.agree (fun k hk' => Below.heap_setCell w' _ v' k (hvg k hk'))⟩, (ht.mono (fun k hk => .inr (.inr (.inr (.inr (.inr (.inr hk))))))).trans (Touch.set (S := foot g s) (.inl rfl) _) (fun _ h => .inl h), fun k hk => ?_⟩
  rcases hk with hk | hk | hk | hk | hk | hk | hk
  · exact .inl (.inl hk)
  · exact .inl (.inr (.inl hk))
  · exact .inl (.inr (.inr (.inl hk)))
  · exact .inl (.inr (.inr (.inr (.inl hk))))
  · exact .inl (.inr (.inr (.inr (.inr (.inl hk)))))
  · exact .inl (.inr (.inr (.inr (.inr (.inr (.inl hk))))))
  · rcases hv k hk with hk | hk
    · exact .inl (.inr (.inr (.inr (.inr (.inr (.inr hk))))))
    · exact .inr hk

theorem FRel.mosts {s : FS} {f : M.Fl ByteArray} (h : FRel s f) (hp : ∀ p ∈ f.parts, Wh.IsT p.most) : ∀ q ∈ s.ps, Wh.IsT q.most := fun q hq => by
  obtain ⟨i, hi⟩ := List.mem_iff_getElem?.1 hq
  have hl := (List.getElem?_eq_some_iff.1 hi).1
  obtain ⟨p, hp2⟩ : ∃ p, f.parts[i]? = some p := ⟨_, List.getElem?_eq_getElem (by rw [← h.plen]; exact hl)⟩
  have h1 := (h.parts i q p hi hp2).most
  have h2 := hp p (List.mem_of_getElem? hp2)
  rw [h1]
  split
  · exact h2
  · exact ⟨by omega, by omega⟩

theorem way_below {w w' : World} {g : Nat} {s : FS} (h : FlowIs w g s) (hb : Below w.heap.size w w') : Way w w' g s s := ⟨h.below hb, Touch.of_below hb, fun _ hk => .inl hk⟩
theorem way_other {w : World} {g b o : Nat} {s : FS} {u : Value} (h : FlowIs w g s) (hn : ¬ foot g s b) : FlowIs (w.setCell ⟨b, o, none⟩ u) g s := h.agree fun k hk => Below.heap_setCell w ⟨b, o, none⟩ u k (fun e => hn (by have e2 : k = b := e; rw [← e2]; exact hk))

/-- A part's silence broken; its greatest time told. -/
theorem PtRel.broken {idle : Int} {q : IP} {p : M.Pt} (h : PtRel idle q p) : PtRel idle { q with ticks := 0 } { p with silent := 0, idle := false } :=
  ⟨h.ended, h.most, fun _ => ⟨Int.le_refl _, rfl, by
    show false = _
    by_cases h0 : 0 < idle
    · have : ¬ idle ≤ 0 := by omega
      simp [this]
    · simp [h0]⟩⟩
theorem PtRel.taken {idle t : Int} {q : IP} {p : M.Pt} (h : PtRel idle q p) (ht : Wh.IsT t) : PtRel idle { q with most := max q.most t } { p with any := true, most := if p.any = false ∨ p.most < t then t else p.most } :=
  ⟨h.ended, by
    show max q.most t = _
    rw [if_pos rfl, h.most]
    unfold Wh.IsT at ht
    cases ha : p.any
    · simp only [Bool.false_eq_true, if_false, true_or, if_true]; omega
    · simp only [if_true, Bool.true_eq_false, false_or]
      split <;> omega, h.silent⟩

theorem modify_modify {α : Type} (f g : α → α) : ∀ (l : List α) (i : Nat), (l.modify i f).modify i g = l.modify i (g ∘ f)
  | [], i => by cases i <;> rfl
  | x :: l, 0 => rfl
  | x :: l, i + 1 => by
    simp only [List.modify_succ_cons, modify_modify f g l i]

theorem FlObj.atCfg {w : World} {g : Nat} {s : FS} (h : FlObj w g s) : w.cell? ⟨g, 6, none⟩ = some s.pv := h.at6
end Go.Proofs.YtnnoaolceeendaaGreatDoor
namespace Go.Proofs.YtnnoaolceeendaaGreatDoor
open Go.ChangeShapes Go.WideShapes Go.ChangeAt Go.RowKit

/-- What a call on a flow that moves the mark asks. -/
structure MoveOk (w : World) (g : Nat) (s : FS) (f : M.Fl ByteArray) : Prop where
  fl : FlowIs w g s
  rel : FRel s f
  cb : CfB s.C
  most : ∀ p ∈ f.parts, Wh.IsT p.most
  len : s.ps.length ≤ 8
  room : f.opn.length + f.told.length ≤ 50000000

theorem PtRel.endP {idle : Int} {q : IP} {p : M.Pt} (h : PtRel idle q p) : PtRel idle { q with ended := true } { p with ended := true } := ⟨rfl, h.most, fun hx => by cases hx⟩

theorem modify_most {ps : List M.Pt} {i : Nat} {fn : M.Pt → M.Pt} (h : ∀ p ∈ ps, Wh.IsT p.most) (hf : ∀ p, Wh.IsT p.most → Wh.IsT (fn p).most) : ∀ p ∈ ps.modify i fn, Wh.IsT p.most := fun p hp => by
  obtain ⟨j, hj⟩ := List.mem_iff_getElem?.1 hp
  rw [List.getElem?_modify] at hj
  cases hx : ps[j]? with
  | none => rw [hx] at hj; simp at hj
  | some x =>
    rw [hx] at hj
    have hm := h x (List.mem_of_getElem? hx)
    by_cases hij : i = j
    · simp [hij] at hj; rw [← hj]; exact hf x hm
    · simp [hij] at hj; rw [← hj]; exact hm

set_option maxRecDepth 100000 in
set_option maxHeartbeats 4000000 in
theorem end_yes (g : Nat) (s : FS) (f : M.Fl ByteArray) (i : Nat) (q : IP) (w : World) (T : MoveOk w g s f) (hq : s.ps[i]? = some q) (hqe : q.ended = false) :
    Calls Tryz.prog 44 #[.pointer (some ⟨g, 0, none⟩), .int .i64 (i : Int)] w fun r w' => r = .returned (.int .i64 0) ∧ ∃ s', Way w w' g s s' ∧ FRel s' (M.endF ltK s.C.bound i f) ∧ s'.C = s.C := by
  obtain ⟨h, hR, hcb, hmost, hn, hroom⟩ := T
  have hgz := h.ob.lt
  have hil : i < s.ps.length := (List.getElem?_eq_some_iff.1 hq).1
  obtain ⟨pb, cap, hpv, -, hpbz, hcl, -⟩ := h.parts.at ipC_len hq
  obtain ⟨p, hp⟩ : ∃ p, f.parts[i]? = some p := ⟨_, List.getElem?_eq_getElem (by rw [← hR.plen]; exact hil)⟩
  have hPR := hR.parts i q p hq hp
  have m2 : w.cell? ⟨pb, i * 3 + 2, none⟩ = some (.bool q.ended) := (hcl 2 (by omega)).trans rfl
  have f2 : w.frozen? ⟨pb, i * 3 + 2, none⟩ = false := by
    have hr := h.parts
    rw [hpv] at hr
    exact hr.frozen _
  have c6 := h.ob.at6
  rw [hpv] at c6
  have href : refI s (i : Int) = 0 := by
    rw [refI, if_neg (by omega), Int.toNat_natCast, List.getD_eq_getElem?_getD, hq]
    show (if q.ended = true then (3 : Int) else 0) = 0
    rw [hqe]
    rfl
  have RF := hideP (refusal_any g s (i : Int) w h hn)
  rw [href] at RF
  have W1 := hideP (h.partSet (j := 2) (y := { q with ended := true }) (u := .bool true) hpv hq (by omega) rfl)
  have R1 := hideP (hR.part (fn := fun p => { p with ended := true }) hq hp hPR.endP)
  have MV := hideP (moveMark_any g _ _ _ W1.out.fl R1.out (R1.out.mosts (modify_most hmost (fun _ h => h))) (modify_most hmost (fun _ h => h)) (by simp only [List.length_set]; exact hn) hcb hroom)
  have i1 : (0 : Int) ≤ (i : Int) := by omega
  have i2 : (i : Int) < (s.ps.length : Int) := by omega
  clear h hR hcb hmost hpv hq hp hPR href hcl hroom
  go_enter Tryz.func44, Tryz.ntmps44
  go_wp2_with (first
    | (go_at_call 50; refine RF.out.mono ?_; rintro r w9 ⟨rfl, rfl⟩)
    | (go_at_call 54; refine MV.out.mono ?_; rintro r w3 ⟨rfl, s3, hw3, hr3, hc3⟩))
  go_ret
  exact ⟨rfl, s3, W1.out.trans hw3, hr3, hc3⟩

theorem end_no (g : Nat) (s : FS) (n : Int) (w : World) (h : FlowIs w g s) (hn : s.ps.length ≤ 8) (hr : refI s n ≠ 0) :
    Calls Tryz.prog 44 #[.pointer (some ⟨g, 0, none⟩), .int .i64 n] w fun r w' => r = .returned (.int .i64 (refI s n)) ∧ w' = w := by
  have RF := hideP (refusal_any g s n w h hn)
  obtain ⟨k, hk⟩ : ∃ k, refI s n = k := ⟨_, rfl⟩
  rw [hk] at RF hr ⊢
  clear hk h
  go_enter Tryz.func44, Tryz.ntmps44
  go_wp2_with (go_at_call 50; refine RF.out.mono ?_; rintro r w9 ⟨rfl, rfl⟩)
  go_ret
  exact ⟨rfl, rfl⟩

/-! ### A tick -/
theorem PtRel.ticked {idle : Int} {q : IP} {p : M.Pt} (h : PtRel idle q p) (he : p.ended = false) : PtRel idle { q with ticks := min (q.ticks + 1) 100 } (M.tickP idle p) := by
  obtain ⟨h1, h2, h3⟩ := h.silent he
  unfold M.tickP
  rw [if_neg (by rw [he]; simp)]
  refine ⟨h.ended, h.most, fun _ => ⟨by show 0 ≤ p.silent + 1; omega, ?_, ?_⟩⟩
  · show min (q.ticks + 1) 100 = if p.silent + 1 < 100 then p.silent + 1 else 100
    rw [h2]
    split <;> split <;> omega
  · show (p.idle || (decide (0 < idle) && decide (idle ≤ p.silent + 1))) = (decide (0 < idle) && decide (idle ≤ p.silent + 1))
    rw [h3]
    by_cases h4 : 0 < idle
    · by_cases h5 : idle ≤ p.silent + 1
      · simp [h4, h5]
      · have : ¬ idle ≤ p.silent := by omega
        simp [h5, this]
    · simp [h4]

def tickTo (idle : Int) (ps : List M.Pt) (k : Nat) : List M.Pt := (ps.take k).map (M.tickP idle) ++ ps.drop k
theorem tickTo_get (idle : Int) (ps : List M.Pt) (k j : Nat) : (tickTo idle ps k)[j]? = if j < k then (ps[j]?).map (M.tickP idle) else ps[j]? := by
  unfold tickTo
  by_cases h : j < k
  · rw [if_pos h]
    by_cases hl : j < ps.length
    · rw [List.getElem?_append_left (by simp; omega), List.getElem?_map, List.getElem?_take_of_lt h]
    · rw [List.getElem?_append_right (by simp; omega), List.getElem?_drop, List.getElem?_eq_none (by simp; omega), List.getElem?_eq_none (by omega)]
      rfl
  · rw [if_neg h]
    by_cases hl : j < ps.length
    · rw [List.getElem?_append_right (by simp; omega), List.getElem?_drop]
      congr 1
      simp
      omega
    · rw [List.getElem?_eq_none (by simp; omega), List.getElem?_eq_none (by omega)]
theorem tickTo_step (idle : Int) (ps : List M.Pt) (k : Nat) : tickTo idle ps (k + 1) = (tickTo idle ps k).modify k (M.tickP idle) := by
  apply List.ext_getElem?
  intro j
  rw [List.getElem?_modify, tickTo_get, tickTo_get]
  by_cases h : j < k
  · have hne : k ≠ j := by omega
    rw [if_pos (by omega), if_pos h]
    simp [hne]
  · by_cases h2 : j = k
    · subst h2
      rw [if_pos (by omega), if_neg h]
      simp
    · have hne : k ≠ j := fun e => h2 e.symm
      rw [if_neg (by omega), if_neg h]
      simp [hne]
theorem tickTo_all (idle : Int) (ps : List M.Pt) : tickTo idle ps ps.length = ps.map (M.tickP idle) := by
  unfold tickTo
  rw [List.take_length, List.drop_length, List.append_nil]
theorem tick_most {idle : Int} {ps : List M.Pt} (h : ∀ p ∈ ps, Wh.IsT p.most) : ∀ p ∈ ps.map (M.tickP idle), Wh.IsT p.most := fun p hp => by
  obtain ⟨x, hx, rfl⟩ := List.mem_map.1 hp
  have := h x hx
  unfold M.tickP
  split
  · exact this
  · exact this

/-- What the loop of 'tick' holds. -/
structure Tck (w wr : World) (g : Nat) (s s1 : FS) (f : M.Fl ByteArray) (k : Nat) : Prop where
  way : Way w wr g s s1
  rel : FRel s1 { f with parts := tickTo s.C.idle f.parts k }
  C : s1.C = s.C
  pv : s1.pv = s.pv
  len : s1.ps.length = s.ps.length

theorem Tck.step {w wr : World} {g : Nat} {s s1 : FS} {f : M.Fl ByteArray} {k pb cap : Nat} {q : IP} {p : M.Pt} (h : Tck w wr g s s1 f k) (hv : s.pv = .slice (some ⟨pb, 0, none⟩) s.ps.length cap) (hq : s1.ps[k]? = some q) (hp : f.parts[k]? = some p) (he : q.ended = false) (hPR : PtRel s.C.idle q p) :
    Tck w (wr.setCell ⟨pb, k * 3, none⟩ (.int .i64 (min (q.ticks + 1) 100))) g s { s1 with ps := s1.ps.set k { q with ticks := min (q.ticks + 1) 100 } } f (k + 1) := by
  have hv1 : s1.pv = .slice (some ⟨pb, 0, none⟩) s1.ps.length cap := by rw [h.pv, h.len]; exact hv
  have hpt : (tickTo s.C.idle f.parts k)[k]? = some p := by rw [tickTo_get, if_neg (by omega)]; exact hp
  have hW := h.way.fl.partSet (j := 0) (y := { q with ticks := min (q.ticks + 1) 100 }) (u := .int .i64 (min (q.ticks + 1) 100)) hv1 hq (by omega) rfl
  have hR := h.rel.part (fn := M.tickP s.C.idle) (y := { q with ticks := min (q.ticks + 1) 100 }) hq hpt (by rw [h.C]; exact hPR.ticked (by rw [← hPR.ended]; exact he))
  refine ⟨h.way.trans hW, ?_, h.C, h.pv, by show (s1.ps.set k _).length = _; rw [List.length_set]; exact h.len⟩
  rw [tickTo_step]
  exact hR
theorem Tck.skip {w wr : World} {g : Nat} {s s1 : FS} {f : M.Fl ByteArray} {k : Nat} {p : M.Pt} (h : Tck w wr g s s1 f k) (hp : f.parts[k]? = some p) (he : p.ended = true) : Tck w wr g s s1 f (k + 1) := by
  refine ⟨h.way, ?_, h.C, h.pv, h.len⟩
  have e1 : tickTo s.C.idle f.parts (k + 1) = tickTo s.C.idle f.parts k := by
    apply List.ext_getElem?
    intro j
    rw [tickTo_get, tickTo_get]
    by_cases hj : j < k
    · rw [if_pos (by omega), if_pos hj]
    · by_cases h2 : j = k
      · subst h2
        rw [if_pos (by omega), if_neg hj, hp]
        show some (M.tickP s.C.idle p) = some p
        unfold M.tickP
        rw [if_pos he]
      · rw [if_neg (by omega), if_neg hj]
  rw [e1]
  exact h.rel

set_option maxRecDepth 100000 in
set_option maxHeartbeats 4000000 in
theorem tick_any (g : Nat) (s : FS) (f : M.Fl ByteArray) (w : World) (T : MoveOk w g s f) :
    Calls Tryz.prog 56 #[.pointer (some ⟨g, 0, none⟩)] w fun r w' => r = .returned (.tuple #[]) ∧ ∃ s', Way w w' g s s' ∧ FRel s' (M.tickF ltK s.C.bound s.C.idle f) ∧ s'.C = s.C := by
  obtain ⟨h, hR, hcb, hmost, hn, hroom⟩ := T
  have hgz := h.ob.lt
  obtain ⟨pa, pc, hsl⟩ := h.parts.slice
  have c6 := h.ob.at6
  rw [hsl] at c6
  have HSL := hideP hsl
  have T0 : Hid (Tck w w g s s f 0) := ⟨Way.start h, hR, rfl, rfl, rfl⟩
  have HPL := hideP hR.plen
  have HB := hideP (And.intro hmost (And.intro hroom hcb))
  clear h hR hcb hmost hroom hsl
  go_enter Tryz.func56, Tryz.ntmps56
  go_wp2
  go_loopw [11] (fun ii wr => ∃ k : Nat, k ≤ s.ps.length ∧ ii = .int .i64 k ∧ ∃ s1, Hid (Tck w wr g s s1 f k)) (fun ii _ => s.ps.length - (intOf ii).toNat)
  case atStart => exact ⟨0, Nat.zero_le _, rfl, s, T0⟩
  case round =>
    obtain ⟨k, hk, rfl, s1, HK⟩ := hrel
    by_cases hlt : k < s.ps.length
    · obtain ⟨q, hq⟩ : ∃ q, s1.ps[k]? = some q := ⟨_, List.getElem?_eq_getElem (by rw [HK.out.len]; exact hlt)⟩
      obtain ⟨p, hp⟩ : ∃ p, f.parts[k]? = some p := ⟨_, List.getElem?_eq_getElem (by rw [← HPL.out]; exact hlt)⟩
      obtain ⟨pb, cap, ev, -, hpbz, hcl, -⟩ := HK.out.way.fl.parts.at ipC_len hq
      rw [HK.out.pv, HSL.out, HK.out.len] at ev
      simp only [Value.slice.injEq] at ev
      obtain ⟨rfl, -, rfl⟩ := ev
      have hPR : PtRel s.C.idle q p := by
        have := HK.out.rel.parts k q p hq (by show (tickTo s.C.idle f.parts k)[k]? = _; rw [tickTo_get, if_neg (by omega)]; exact hp)
        rw [← HK.out.C]
        exact this
      have m0 : wr.cell? ⟨pb, k * 3, none⟩ = some (.int .i64 q.ticks) := (hcl 0 (by omega)).trans rfl
      have m2 : wr.cell? ⟨pb, k * 3 + 2, none⟩ = some (.bool q.ended) := (hcl 2 (by omega)).trans rfl
      have f0 : wr.frozen? ⟨pb, k * 3, none⟩ = false := by
        have hr := HK.out.way.fl.parts
        rw [HK.out.pv, HSL.out, ← HK.out.len] at hr
        exact hr.frozen _
      have d6 := HK.out.way.fl.ob.at6
      rw [HK.out.pv, HSL.out] at d6
      have i1 : (0 : Int) ≤ (k : Int) := by omega
      have i2 : (k : Int) < (s.ps.length : Int) := by omega
      obtain ⟨be, hbe⟩ : ∃ b, q.ended = b := ⟨_, rfl⟩
      rw [hbe] at m2
      cases be
      · have hpe : p.ended = false := by rw [← hPR.ended]; exact hbe
        have htk : 0 ≤ q.ticks ∧ q.ticks ≤ 100 := by
          obtain ⟨h1, h2, -⟩ := hPR.silent hpe
          rw [h2]
          split <;> omega
        have HK2 := hideP (HK.out.step HSL.out hq hp hbe hPR)
        have LN := hideP (lengthen_any pb (k * 3) q.ticks wr m0 f0 htk.1 htk.2)
        clear hq hp hcl hPR hbe
        go_wp2_with (go_at_call 76; refine LN.out.mono ?_; rintro r w9 ⟨rfl, rfl⟩)
        go_roundw
        case rel => exact ⟨k + 1, by omega, by go_num, _, HK2⟩
        case measure => simp [intOf]; omega
      · have HK2 := hideP (HK.out.skip hp (by rw [← hPR.ended]; exact hbe))
        clear hq hp hcl hPR hbe
        go_wp2
        go_roundw
        case rel => exact ⟨k + 1, by omega, by go_num, _, HK2⟩
        case measure => simp [intOf]; omega
    · have ek : k = f.parts.length := by rw [← HPL.out]; omega
      have HRL := hideP HK.out.rel
      rw [ek, tickTo_all] at HRL
      clear ek
      have MV := hideP (moveMark_any g s1 _ wr HK.out.way.fl HRL.out (HRL.out.mosts (tick_most HB.out.1)) (tick_most HB.out.1) (by rw [HK.out.len]; exact hn) (by rw [HK.out.C]; exact HB.out.2.2) HB.out.2.1)
      go_wp2_with (go_at_call 54; refine MV.out.mono ?_; rintro r w3 ⟨rfl, s3, hw3, hr3, hc3⟩)
      go_end0
      refine ⟨rfl, s3, HK.out.way.trans hw3, ?_, hc3.trans HK.out.C⟩
      rw [HK.out.C] at hr3
      exact hr3
end Go.Proofs.YtnnoaolceeendaaGreatDoor
namespace Go.Proofs.YtnnoaolceeendaaGreatDoor
open Go.ChangeShapes Go.WideShapes Go.ChangeAt Go.RowKit

theorem Tryz.infoTEvA : (Tryz.prog.info? 54).map (fun i => (i.zero, i.size, i.bytes)) = some (some (.agg #[.int .i64 0, .string ByteArray.empty, .int .i64 0, .int .i64 0]), 4, 40) := by kernel_rfl

/-- What 'take' asks. -/
structure TakeOk (w : World) (g : Nat) (s : FS) (f : M.Fl ByteArray) : Prop where
  fl : FlowIs w g s
  rel : FRel s f
  st : FSt w
  low : ∀ k, foot g s k → 1 ≤ k
  cw : CfW s.C
  cb : CfB s.C
  most : ∀ p ∈ f.parts, Wh.IsT p.most
  len : s.ps.length ≤ 8
  room : f.opn.length + f.told.length + 11 ≤ 50000000
  roomA : f.after.length + 1 ≤ 50000000

/-- The document's flow behind an event's counting, ahead of its greatest time. -/
def midF (C : Cf) (e : M.Ev ByteArray) (i : Nat) (f : M.Fl ByteArray) : M.Fl ByteArray :=
  { f with parts := f.parts.modify i (fun p => { p with silent := 0, idle := false }), opn := M.countAll C.size C.fold f.now e.key e.val (C.ws e.at_) f.opn, after := if M.isLate C.size f.now (C.ws e.at_) = true then f.after ++ [e] else f.after }

/-- Where 'take' is then. -/
structure TkM (w wx : World) (g : Nat) (s s3 : FS) (f : M.Fl ByteArray) (i : Nat) (e : M.Ev ByteArray) (q : IP) : Prop where
  way : Way w wx g s s3
  rel : FRel s3 (midF s.C e i f)
  C : s3.C = s.C
  pv : s3.pv = s.pv
  ps : s3.ps = s.ps.set i { q with ticks := 0 }
  box : wx.heap[w.heap.size]? = some (.cells #[.int .i64 (i : Int), .string e.key, .int .i64 e.at_, .int .i64 e.val] 54 (0, 0))

theorem mid_take {C : Cf} {i : Nat} {key : ByteArray} {at_ v : Int} {f : M.Fl ByteArray} : M.moveF ltK C.bound { midF C ⟨(i : Int), key, at_, v⟩ i f with parts := (midF C ⟨(i : Int), key, at_, v⟩ i f).parts.modify i (fun p => { p with any := true, most := if p.any = false ∨ p.most < at_ then at_ else p.most }) } = M.takeF ltK C.size C.fold C.bound C.ws ⟨(i : Int), key, at_, v⟩ f := by
  unfold M.takeF midF
  simp only [modify_modify, Int.toNat_natCast]
  rfl

theorem FRel.late {s : FS} {f : M.Fl ByteArray} (h : FRel s f) (v' : Value) (e : M.Ev ByteArray) : FRel { s with av := v', after := s.after ++ [e] } { f with after := f.after ++ [e] } :=
  ⟨h.now, h.told, by show s.after ++ [e] = f.after ++ [e]; rw [h.after], ⟨h.inv.opn, h.inv.told, h.inv.sorted, h.inv.hi, h.inv.lo⟩, h.opn, h.tm, h.time, h.slotT, h.wheel, h.plen, h.parts⟩

theorem mid_len {C : Cf} {e : M.Ev ByteArray} {i : Nat} {f : M.Fl ByteArray} (h : f.opn.length + f.told.length + 11 ≤ 50000000) : (midF C e i f).opn.length + (midF C e i f).told.length ≤ 50000000 := by
  show (M.countAll C.size C.fold f.now e.key e.val (C.ws e.at_) f.opn).length + f.told.length ≤ _
  have h1 := cA_len (size := C.size) (fold := C.fold) (now := f.now) (v := e.val) (key := e.key) (C.ws e.at_) f.opn
  have h2 : (C.ws e.at_).length ≤ 11 := wins_len _ _ _
  omega
set_option maxRecDepth 100000 in
set_option maxHeartbeats 4000000 in
theorem take_yes (g : Nat) (s : FS) (f : M.Fl ByteArray) (i : Nat) (key : ByteArray) (at_ v : Int) (q : IP) (w : World) (T : TakeOk w g s f) (ht : Wh.IsT at_) (hk : key.size ≤ 1048576) (hv : fits v) (hq : s.ps[i]? = some q) (hqe : q.ended = false) :
    Calls Tryz.prog 32 #[.pointer (some ⟨g, 0, none⟩), .agg #[.int .i64 (i : Int), .string key, .int .i64 at_, .int .i64 v]] w fun r w' => r = .returned (.int .i64 0) ∧ ∃ s', Way w w' g s s' ∧ FRel s' (M.takeF ltK s.C.size s.C.fold s.C.bound s.C.ws ⟨(i : Int), key, at_, v⟩ f) ∧ s'.C = s.C := by
  obtain ⟨i0, hi, hz0, hz1, hz2⟩ := info_parts Tryz.infoTEvA
  have HT := hideP T
  obtain ⟨h, hR, hL, hlow, hcw, hcb, hmost, hn, hroom, hroomA⟩ := T
  have hgz := h.ob.lt
  have hil : i < s.ps.length := (List.getElem?_eq_some_iff.1 hq).1
  obtain ⟨pb, cap, hpv, -, hpbz, hcl, -⟩ := h.parts.at ipC_len hq
  obtain ⟨p, hp⟩ : ∃ p, f.parts[i]? = some p := ⟨_, List.getElem?_eq_getElem (by rw [← hR.plen]; exact hil)⟩
  have hPR := hR.parts i q p hq hp
  have hpf : foot g s pb := .inr (.inl (by rw [hpv]; rfl))
  have hnb : ¬ foot g s w.heap.size := fun hx => by have := h.foot_lt hx; omega
  -- the event's box
  have hA : Below w.heap.size w (w.alloc (.cells #[.int .i64 (i : Int), .string key, .int .i64 at_, .int .i64 v] 54)) := (Below.refl _ _).alloc (Nat.le_refl _) _
  have hbxh : (w.alloc (.cells #[.int .i64 (i : Int), .string key, .int .i64 at_, .int .i64 v] 54)).heap[w.heap.size]? = some (.cells #[.int .i64 (i : Int), .string key, .int .i64 at_, .int .i64 v] 54 (0, 0)) := heap_alloc_new w _
  obtain ⟨w1, hw1⟩ : ∃ x, x = w.alloc (.cells #[.int .i64 (i : Int), .string key, .int .i64 at_, .int .i64 v] 54) := ⟨_, rfl⟩
  have hz1w : w1.heap.size = w.heap.size + 1 := by rw [hw1]; simp
  rw [← hw1] at hA hbxh
  have HW1 := hideP hw1
  have a0 : w1.cell? ⟨w.heap.size, 0, none⟩ = some (.int .i64 (i : Int)) := cell_of_row w1 _ 0 _ _ _ hbxh
  have a1 : w1.cell? ⟨w.heap.size, 1, none⟩ = some (.string key) := cell_of_row w1 _ 1 _ _ _ hbxh
  have href : refI s (i : Int) = 0 := by
    rw [refI, if_neg (by omega), Int.toNat_natCast, List.getD_eq_getElem?_getD, hq]
    show (if q.ended = true then (3 : Int) else 0) = 0
    rw [hqe]
    rfl
  have RF := hideP (refusal_any g s (i : Int) w1 (h.below hA) hn)
  rw [href] at RF
  have HA := hideP hA
  have HBX := hideP hbxh
  have HPV := hideP hpv
  have HQ := hideP hq
  have HP := hideP hp
  have HPR := hideP hPR
  have i1 : (0 : Int) ≤ (i : Int) := by omega
  have i2 : (i : Int) < (s.ps.length : Int) := by omega
  clear h hR hL hlow hcw hcb hmost hA hbxh hpv hq hp hPR href hcl hw1
  go_enter Tryz.func32, Tryz.ntmps32
  go_wp2_with fail
  rw [← HW1.out]
  go_wp2_with (first
    | (go_at_call 50; refine RF.out.mono ?_; rintro r w9 ⟨rfl, rfl⟩)
    | (go_at_call 51; refine (sclone_any key _ hk).mono ?_; rintro r w2 ⟨rfl, hb2⟩; have HB2 := hideP hb2; have b1 := keepAt hb2 (by omega) a1; have fb1 : w2.frozen? ⟨w.heap.size, 1, none⟩ = false := (frozen_of_row w2 _ 1 _ _ ((hb2.block _ (by omega)).trans HBX.out)); clear hb2))
  obtain ⟨w3, hw3⟩ : ∃ x, x = w2.setCell ⟨w.heap.size, 1, none⟩ (.string key) := ⟨_, rfl⟩
  rw [← hw3]
  have hBX3 : w3.heap[w.heap.size]? = some (.cells #[.int .i64 (i : Int), .string key, .int .i64 at_, .int .i64 v] 54 (0, 0)) := by
    rw [hw3, heap_setCell_same w2 _ 1 _ _ (.string key) ((HB2.out.block _ (by omega)).trans HBX.out)]
    rfl
  have hB3 : Below w.heap.size w w3 := by
    have hb12 : Below w.heap.size w w2 := HA.out.trans (HB2.out.mono (by omega))
    rw [hw3]
    exact ⟨hb12.os, hb12.tape, hb12.output, by simpa using hb12.size, fun k hk => (Below.heap_setCell w2 _ _ k (by simp; omega)).trans (hb12.block k hk)⟩
  have hz3 : w.heap.size < w3.heap.size := lt_of_block hBX3
  have F3 := HT.out.fl.below hB3
  have c6 := F3.ob.at6
  rw [HPV.out] at c6
  have b0 : w3.cell? ⟨w.heap.size, 0, none⟩ = some (.int .i64 (i : Int)) := cell_of_row w3 _ 0 _ _ _ hBX3
  obtain ⟨pb', cap', ev, -, -, hcl3, -⟩ := F3.parts.at ipC_len HQ.out
  rw [HPV.out] at ev
  simp only [Value.slice.injEq, Option.some.injEq, Addr.mk.injEq, and_true] at ev
  obtain ⟨rfl, -, rfl⟩ := ev
  have m0 : w3.cell? ⟨pb, i * 3, none⟩ = some (.int .i64 q.ticks) := (hcl3 0 (by omega)).trans rfl
  have fz0 : w3.frozen? ⟨pb, i * 3, none⟩ = false := by
    have hr := F3.parts
    rw [HPV.out] at hr
    exact hr.frozen _
  have HF3 := hideP F3
  have HB3 := hideP hB3
  have HBX3 := hideP hBX3
  clear F3 hB3 hBX3 hcl3 hw3 HB2 b1 fb1 a0 a1 RF
  go_quiet (fail)
  have F3' : FlowIs (w3.drewN nq) g s := HF3.out.agree fun _ _ => rfl
  have W1 := F3'.partSet (j := 0) (y := { q with ticks := 0 }) (u := .int .i64 0) HPV.out HQ.out (by omega) rfl
  have R1 := HT.out.rel.part (fn := fun p => { p with silent := 0, idle := false }) HQ.out HP.out HPR.out.broken
  have hB3' : Below w.heap.size w (w3.drewN nq) := ⟨HB3.out.os, HB3.out.tape, HB3.out.output, HB3.out.size, HB3.out.block⟩
  obtain ⟨w4, hw4⟩ : ∃ x, x = (w3.drewN nq).setCell ⟨pb, i * 3, none⟩ (.int .i64 0) := ⟨_, rfl⟩
  have W1' : Way (w3.drewN nq) w4 g s { s with ps := s.ps.set i { q with ticks := 0 } } := by rw [hw4]; exact W1
  have HW4 := hideP hw4
  have W01 : Way w w4 g s { s with ps := s.ps.set i { q with ticks := 0 } } := (way_below HT.out.fl hB3').trans W1'
  have hBX4 : w4.heap[w.heap.size]? = some (.cells #[.int .i64 (i : Int), .string key, .int .i64 at_, .int .i64 v] 54 (0, 0)) := (W1'.touch.block _ hz3 hnb).trans HBX3.out
  have n0 : ¬ foot g s 0 := fun hx => by have := HT.out.low 0 hx; omega
  have hL4 : FSt w4 := W01.touch.fst HT.out.st n0
  have CN := hideP (count_any g _ _ (i : Int) key at_ v w4 W01.fl R1 hL4 (fun k hk => HT.out.low k hk) HT.out.cw ht hk hv (by have := HT.out.room; show f.opn.length + 11 ≤ _; omega))
  have BR := hideP (break_any pb (i * 3) q.ticks (w3.drewN nq) m0 fz0)
  rw [← hw4] at BR
  have g0 : w4.cell? ⟨w.heap.size, 0, none⟩ = some (.int .i64 (i : Int)) := cell_of_row w4 _ 0 _ _ _ hBX4
  have g1 : w4.cell? ⟨w.heap.size, 1, none⟩ = some (.string key) := cell_of_row w4 _ 1 _ _ _ hBX4
  have g2 : w4.cell? ⟨w.heap.size, 2, none⟩ = some (.int .i64 at_) := cell_of_row w4 _ 2 _ _ _ hBX4
  have g3 : w4.cell? ⟨w.heap.size, 3, none⟩ = some (.int .i64 v) := cell_of_row w4 _ 3 _ _ _ hBX4
  have HW01 := hideP W01
  have HBX4 := hideP hBX4
  have hz4 : w.heap.size < w4.heap.size := lt_of_block hBX4
  clear F3' W1 R1 hB3' W1' W01 hBX4 hL4 hw4 n0
  go_wp2_with (first
    | (go_at_call 52; refine BR.out.mono ?_; rintro r w9 ⟨rfl, rfl⟩)
    | (go_at_call 53; fail))
  refine CN.out.mono ?_
  rintro r w5 ⟨rfl, s2, hw2, hr2, hs2⟩
  have hnb2 : ¬ foot g s2 w.heap.size := fun hx => (hw2.foot _ hx).elim hnb (fun h => by omega)
  have W02 := HW01.out.trans hw2
  have hBX5 : w5.heap[w.heap.size]? = some (.cells #[.int .i64 (i : Int), .string key, .int .i64 at_, .int .i64 v] 54 (0, 0)) := (hw2.touch.block _ hz4 hnb).trans HBX4.out
  have hz5 : w.heap.size < w5.heap.size := lt_of_block hBX5
  obtain ⟨bl, hbl⟩ : ∃ b, M.isLate s.C.size f.now (wins at_ s.C.size s.C.slide) = b := ⟨_, rfl⟩
  have HBL := hideP hbl
  have k0 : w5.cell? ⟨w.heap.size, 0, none⟩ = some (.int .i64 (i : Int)) := cell_of_row w5 _ 0 _ _ _ hBX5
  have k1 : w5.cell? ⟨w.heap.size, 1, none⟩ = some (.string key) := cell_of_row w5 _ 1 _ _ _ hBX5
  have k2 : w5.cell? ⟨w.heap.size, 2, none⟩ = some (.int .i64 at_) := cell_of_row w5 _ 2 _ _ _ hBX5
  have k3 : w5.cell? ⟨w.heap.size, 3, none⟩ = some (.int .i64 v) := cell_of_row w5 _ 3 _ _ _ hBX5
  have HBX5 := hideP hBX5
  have HW02 := hideP W02
  have HR2 := hideP hr2
  have HS2 := hideP hs2
  have hgz5 := hw2.fl.ob.lt
  clear CN BR hw2 hr2 hs2 W02 hBX5 HW01 HBX4 g0 g1 g2 g3 m0 fz0 c6 b0 HF3 HB3 HBX3
  simp only [hbl]
  clear hbl
  cases bl
  · have TM0 : Hid (TkM w w5 g s s2 f i ⟨(i : Int), key, at_, v⟩ q) := by
      refine ⟨HW02.out, ?_, HS2.out.C, HS2.out.pv, HS2.out.ps, HBX5.out⟩
      have e1 : midF s.C ⟨(i : Int), key, at_, v⟩ i f = { f with parts := f.parts.modify i (fun p => { p with silent := 0, idle := false }), opn := M.countAll s.C.size s.C.fold f.now key v (wins at_ s.C.size s.C.slide) f.opn } := by
        unfold midF Cf.ws
        simp only [HBL.out]
        rfl
      rw [e1]
      exact HR2.out
    obtain ⟨pb9, cap9, ev9, -, -, hcl9, -⟩ := TM0.out.way.fl.parts.at (i := i) (x := { q with ticks := 0 }) ipC_len (by rw [TM0.out.ps]; exact List.getElem?_set_self hil)
    rw [TM0.out.pv, HPV.out] at ev9
    simp only [Value.slice.injEq, Option.some.injEq, Addr.mk.injEq, and_true] at ev9
    obtain ⟨rfl, -, rfl⟩ := ev9
    have n1 : w5.cell? ⟨pb, i * 3 + 1, none⟩ = some (.int .i64 q.most) := (hcl9 1 (by omega)).trans rfl
    have nf : w5.frozen? ⟨pb, i * 3 + 1, none⟩ = false := by
      have hr := TM0.out.way.fl.parts
      rw [TM0.out.pv, HPV.out, show s.ps.length = s2.ps.length by rw [TM0.out.ps, List.length_set]] at hr
      exact hr.frozen _
    have n2 : w5.cell? ⟨w.heap.size, 2, none⟩ = some (.int .i64 at_) := cell_of_row w5 _ 2 _ _ _ TM0.out.box
    have hpbx : pb ≠ w.heap.size := by omega
    clear hcl9
    go_wp2_with fail
    go_region
    have F9 : FlowIs w5.drew g s2 := TM0.out.way.fl.agree fun _ _ => rfl
    have hps : s2.ps[i]? = some { q with ticks := 0 } := by rw [TM0.out.ps]; exact List.getElem?_set_self hil
    have hpv9 : s2.pv = .slice (some ⟨pb, 0, none⟩) s2.ps.length cap := by rw [TM0.out.pv, HPV.out, TM0.out.ps, List.length_set]
    have hpp : (midF s.C ⟨(i : Int), key, at_, v⟩ i f).parts[i]? = some { p with silent := 0, idle := false } := by
      show (f.parts.modify i _)[i]? = _
      rw [List.getElem?_modify, HP.out]
      simp
    have W9 := F9.partSet (j := 1) (y := { q with ticks := 0, most := max q.most at_ }) (u := .int .i64 (max q.most at_)) hpv9 hps (by omega) rfl
    have R9 := TM0.out.rel.part (y := { q with ticks := 0, most := max q.most at_ }) (fn := fun p => { p with any := true, most := if p.any = false ∨ p.most < at_ then at_ else p.most }) hps hpp (by rw [TM0.out.C]; exact HPR.out.broken.taken ht)
    have hmo : ∀ x ∈ (midF s.C ⟨(i : Int), key, at_, v⟩ i f).parts.modify i (fun p => { p with any := true, most := if p.any = false ∨ p.most < at_ then at_ else p.most }), Wh.IsT x.most := modify_most (modify_most HT.out.most (fun _ h => h)) (fun x hx => by
      show Wh.IsT (if x.any = false ∨ x.most < at_ then at_ else x.most)
      split
      · exact ht
      · exact hx)
    have MV := hideP (moveMark_any g _ _ _ W9.fl R9 (R9.mosts hmo) hmo (by show (s2.ps.set i _).length ≤ 8; rw [List.length_set, TM0.out.ps, List.length_set]; exact hn) (by show CfB s2.C; rw [TM0.out.C]; exact HT.out.cb) (mid_len (i := i) HT.out.room))
    have HW9 : Hid (Way w5 (w5.drew.setCell ⟨pb, i * 3 + 1, none⟩ (.int .i64 (max q.most at_))) g s2 { s2 with ps := s2.ps.set i { q with ticks := 0, most := max q.most at_ } }) := ⟨W9.fl, ⟨W9.touch.os, W9.touch.tape, W9.touch.output, W9.touch.size, W9.touch.block⟩, W9.foot⟩
    clear F9 hps hpv9 hpp W9 R9 hmo
    go_wp2_with (go_at_call 54; refine MV.out.mono ?_; rintro r w7 ⟨rfl, s7, hw7, hr7, hc7⟩)
    go_ret
    refine ⟨rfl, s7, (TM0.out.way.trans HW9.out).trans hw7, ?_, hc7.trans TM0.out.C⟩
    have e9 : s2.C = s.C := TM0.out.C
    rw [← mid_take]
    rw [show ({ s2 with ps := s2.ps.set i { q with ticks := 0, most := max q.most at_ } } : FS).C = s.C from e9] at hr7
    exact hr7
  · have d6 := HW02.out.fl.ob.at266
    have fz6 := HW02.out.fl.ob.frozen 266
    have hav := hideP HW02.out.fl.late
    have hga : some g ≠ s2.av.ownBlock := fun hx => by have := kd_inj HW02.out.fl (show kd g s2 .event g from hx.symm) (show kd g s2 .flow g from rfl); cases this
    have hal : s2.after.length + 1 ≤ 50000000 := by
      have h1 := HT.out.rel.after
      have h2 := HT.out.roomA
      rw [HS2.out.after]
      show s.after.length + 1 ≤ _
      rw [h1]
      exact h2
    go_wp2_with fail
    go_region_law ((refine step_append_lies _ (by rfl) _ _ _ (by rfl) 0 54 i0 _ 4 40 Tryz.underlying37 hi hz0 hz1 hz2 rfl (by omega) s2.av _ _ (by rfl) ((World.ownsRow.alloc hav.out _).drew) ⟨w5.heap.size, 0, none⟩ 1 1 (evC ⟨(i : Int), key, at_, v⟩) (by rfl) (by rfl) (World.news_of_block (cs := #[.int .i64 (i : Int), .string key, .int .i64 at_, .int .i64 v]) (t := 54) (fr := (0, 0)) (heap_alloc_new w5 _)) (evC_one _) (by omega) (by unfold maxLen; omega) (by omega) (by simp) (w5.heap.size + 1) (by simp) ?_; intro gg cp' w6 hown6 hg6 hat6 hlt6; have l9 : w6.cell? ⟨g, 266, none⟩ = some s2.av := (hg6.cell_far ⟨g, 266, none⟩ (by simp; omega) hga).trans (keepAt ((Below.refl _ w5).alloc (Nat.le_refl _) _) hgz5 d6); have l10 : w6.frozen? ⟨g, 266, none⟩ = false := (hg6.frozen_far ⟨g, 266, none⟩ (by simp; omega) hga).trans ((((Below.refl _ w5).alloc (Nat.le_refl _) _).frozen (p := ⟨g, 266, none⟩) hgz5).trans fz6)))
    all_goals
      have hr6 : RowIs evC w6 0 54 4 (.slice (some ⟨gg, 0, none⟩) (s2.after.length + 1) cp') (s2.after ++ [⟨(i : Int), key, at_, v⟩]) := by
        unfold RowIs
        simpa using hown6
      have hT6 : Touch (fun k => s2.av.ownBlock = some k) w5 w6 := ⟨hg6.os, hg6.tape, hg6.output, Nat.le_trans (by simp) hg6.size, fun b hb hne => (hg6.block b (by simp; omega) (fun hx => hne hx.symm)).trans (Below.heap_alloc w5 _ b hb)⟩
      have L6 := HW02.out.fl.lating hr6 hT6 (fun k hk => by
        simp only [Value.ownBlock, Option.some.injEq] at hk
        subst hk
        exact hat6.imp id (fun h => by omega))
      obtain ⟨wX, hwX⟩ : ∃ x, x = w6.setCell ⟨g, 266, none⟩ (.slice (some ⟨gg, 0, none⟩) (s2.after.length + 1) cp') := ⟨_, rfl⟩
      rw [← hwX] at L6 ⊢
      obtain ⟨sX, hsX⟩ : ∃ x : FS, x = { s2 with av := .slice (some ⟨gg, 0, none⟩) (s2.after.length + 1) cp', after := s2.after ++ [⟨(i : Int), key, at_, v⟩] } := ⟨_, rfl⟩
      rw [← hsX] at L6
      have hRX : FRel sX (midF s.C ⟨(i : Int), key, at_, v⟩ i f) := by
        have e1 : midF s.C ⟨(i : Int), key, at_, v⟩ i f = { ({ f with parts := f.parts.modify i (fun p => { p with silent := 0, idle := false }), opn := M.countAll s.C.size s.C.fold f.now key v (wins at_ s.C.size s.C.slide) f.opn } : M.Fl ByteArray) with after := f.after ++ [⟨(i : Int), key, at_, v⟩] } := by
          unfold midF Cf.ws
          simp only [HBL.out]
          rfl
        rw [e1, hsX]
        exact HR2.out.late _ _
      have TM0 : Hid (TkM w wX g s sX f i ⟨(i : Int), key, at_, v⟩ q) := by
        refine ⟨HW02.out.trans L6, hRX, by rw [hsX]; exact HS2.out.C, by rw [hsX]; exact HS2.out.pv, by rw [hsX]; exact HS2.out.ps, ?_⟩
        exact (L6.touch.block _ hz5 hnb2).trans HBX5.out
      clear L6 hRX hsX hwX hr6 hT6 hown6 hg6 hat6 hlt6 l9 l10 hav d6 fz6 hga hal k0 k1 k2 k3 HBX5 HR2 HS2 HW02
      obtain ⟨pb9, cap9, ev9, -, -, hcl9, -⟩ := TM0.out.way.fl.parts.at (i := i) (x := { q with ticks := 0 }) ipC_len (by rw [TM0.out.ps]; exact List.getElem?_set_self hil)
      rw [TM0.out.pv, HPV.out] at ev9
      simp only [Value.slice.injEq, Option.some.injEq, Addr.mk.injEq, and_true] at ev9
      obtain ⟨rfl, -, rfl⟩ := ev9
      have n1 : wX.cell? ⟨pb, i * 3 + 1, none⟩ = some (.int .i64 q.most) := (hcl9 1 (by omega)).trans rfl
      have nf : wX.frozen? ⟨pb, i * 3 + 1, none⟩ = false := by
        have hr := TM0.out.way.fl.parts
        rw [TM0.out.pv, HPV.out, show s.ps.length = sX.ps.length by rw [TM0.out.ps, List.length_set]] at hr
        exact hr.frozen _
      have n2 : wX.cell? ⟨w.heap.size, 2, none⟩ = some (.int .i64 at_) := cell_of_row wX _ 2 _ _ _ TM0.out.box
      have hpbx : pb ≠ w.heap.size := by omega
      clear hcl9
      go_wp2_with fail
      go_region
      have F9 : FlowIs wX.drew g sX := TM0.out.way.fl.agree fun _ _ => rfl
      have hps : sX.ps[i]? = some { q with ticks := 0 } := by rw [TM0.out.ps]; exact List.getElem?_set_self hil
      have hpv9 : sX.pv = .slice (some ⟨pb, 0, none⟩) sX.ps.length cap := by rw [TM0.out.pv, HPV.out, TM0.out.ps, List.length_set]
      have hpp : (midF s.C ⟨(i : Int), key, at_, v⟩ i f).parts[i]? = some { p with silent := 0, idle := false } := by
        show (f.parts.modify i _)[i]? = _
        rw [List.getElem?_modify, HP.out]
        simp
      have W9 := F9.partSet (j := 1) (y := { q with ticks := 0, most := max q.most at_ }) (u := .int .i64 (max q.most at_)) hpv9 hps (by omega) rfl
      have R9 := TM0.out.rel.part (y := { q with ticks := 0, most := max q.most at_ }) (fn := fun p => { p with any := true, most := if p.any = false ∨ p.most < at_ then at_ else p.most }) hps hpp (by rw [TM0.out.C]; exact HPR.out.broken.taken ht)
      have hmo : ∀ x ∈ (midF s.C ⟨(i : Int), key, at_, v⟩ i f).parts.modify i (fun p => { p with any := true, most := if p.any = false ∨ p.most < at_ then at_ else p.most }), Wh.IsT x.most := modify_most (modify_most HT.out.most (fun _ h => h)) (fun x hx => by
        show Wh.IsT (if x.any = false ∨ x.most < at_ then at_ else x.most)
        split
        · exact ht
        · exact hx)
      have MV := hideP (moveMark_any g _ _ _ W9.fl R9 (R9.mosts hmo) hmo (by show (sX.ps.set i _).length ≤ 8; rw [List.length_set, TM0.out.ps, List.length_set]; exact hn) (by show CfB sX.C; rw [TM0.out.C]; exact HT.out.cb) (mid_len (i := i) HT.out.room))
      have HW9 : Hid (Way wX (wX.drew.setCell ⟨pb, i * 3 + 1, none⟩ (.int .i64 (max q.most at_))) g sX { sX with ps := sX.ps.set i { q with ticks := 0, most := max q.most at_ } }) := ⟨W9.fl, ⟨W9.touch.os, W9.touch.tape, W9.touch.output, W9.touch.size, W9.touch.block⟩, W9.foot⟩
      clear F9 hps hpv9 hpp W9 R9 hmo
      go_wp2_with (go_at_call 54; refine MV.out.mono ?_; rintro r w7 ⟨rfl, s7, hw7, hr7, hc7⟩)
      go_ret
      refine ⟨rfl, s7, (TM0.out.way.trans HW9.out).trans hw7, ?_, hc7.trans TM0.out.C⟩
      have e9 : sX.C = s.C := TM0.out.C
      rw [← mid_take]
      rw [show ({ sX with ps := sX.ps.set i { q with ticks := 0, most := max q.most at_ } } : FS).C = s.C from e9] at hr7
      exact hr7
end Go.Proofs.YtnnoaolceeendaaGreatDoor
namespace Go.Proofs.YtnnoaolceeendaaGreatDoor
open Go.ChangeShapes Go.WideShapes Go.ChangeAt Go.RowKit

theorem row_cellsG {α : Type} {enc : α → List Value} {w : World} {B e n : Nat} {v : Value} {l : List α} (h : RowIs enc w B e 4 v l) (hn : n = l.length) (h0 : 0 < n) : ∃ b cap, v = .slice (some ⟨b, 0, none⟩) n cap ∧ (∀ j u, (l.flatMap enc)[j]? = some u → w.cell? ((⟨b, 0, none⟩ : Addr).add j) = some u) ∧ B ≤ b ∧ b < w.heap.size := by
  subst hn
  rcases h.2 with ⟨-, h2⟩ | ⟨b, cap, cur, rfl, hb, hh, h1, h2, h3, h4⟩
  · omega
  · refine ⟨b, cap, rfl, fun j u hu => ?_, hb, lt_of_block hh⟩
    have hadd : (⟨b, 0, none⟩ : Addr).add j = ⟨b, j, none⟩ := by unfold Addr.add; split <;> simp_all
    rw [hadd, cell_of_row w b j cur _ _ hh, ← Array.getElem?_toList]
    rw [← h4, List.getElem?_take] at hu
    split at hu
    · exact hu
    · cases hu
theorem evs_len : ∀ l : List (M.Ev ByteArray), (l.flatMap evC).length = l.length * 4
  | [] => rfl
  | p :: l => by rw [List.flatMap_cons, List.length_append, evs_len l, evC_len, List.length_cons]; omega
theorem evs_one (l : List (M.Ev ByteArray)) : ∀ u ∈ l.flatMap evC, u.oneCell' = true := fun u hu => by
  obtain ⟨p, -, hp⟩ := List.mem_flatMap.1 hu
  exact evC_one p u hp

/-- A new row of nothing. -/
theorem row_none {α : Type} (enc : α → List Value) (w : World) (e B : Nat) (hB : B ≤ w.heap.size) : RowIs enc (w.alloc (.cells #[] e)) B e 4 (.slice (some ⟨w.heap.size, 0, none⟩) 0 0) [] :=
  ⟨rfl, .inr ⟨w.heap.size, 0, #[], rfl, hB, heap_alloc_new w _, Nat.le_refl _, by unfold maxLen; omega, rfl, rfl⟩⟩

theorem eqP_some (b o n c : Nat) (w : World) : (binOp .eql 48 (.slice (some ⟨b, o, none⟩) n c) (.slice none 0 0)).run Tryz.prog w = .ok (.bool false) w := by kernel_rfl
theorem eqP_none (w : World) : (binOp .eql 48 (.slice none 0 0) (.slice none 0 0)).run Tryz.prog w = .ok (.bool true) w := by kernel_rfl
theorem eqE_some (b o n c : Nat) (w : World) : (binOp .eql 37 (.slice (some ⟨b, o, none⟩) n c) (.slice none 0 0)).run Tryz.prog w = .ok (.bool false) w := by kernel_rfl
theorem eqE_none (w : World) : (binOp .eql 37 (.slice none 0 0) (.slice none 0 0)).run Tryz.prog w = .ok (.bool true) w := by kernel_rfl

set_option maxRecDepth 100000 in
set_option maxHeartbeats 2000000 in
theorem cloneP_any (l : List (M.Pn ByteArray)) (v : Value) (w : World) (h : RowIs pnC w 0 52 4 v l) (hn : l.length ≤ 100000000) :
    Calls Tryz.prog 45 #[v] w fun r w' => ∃ v', r = .returned v' ∧ RowIs pnC w' w.heap.size 52 4 v' l ∧ Below w.heap.size w w' := by
  obtain ⟨i0, hi, hz0, hz1, hz2⟩ := info_parts Tryz.infoTPn
  have q1 := eqP_some
  have q2 := eqP_none
  rcases h.2 with ⟨e1, e2⟩ | ⟨b, cap, cur, e1, hb, hh, h1, h2, h3, h4⟩
  · have e3 : l = [] := List.length_eq_zero_iff.1 e2
    subst e3
    subst e1
    clear h e2
    go_enter Tryz.func45, Tryz.ntmps45
    go_wp2
    go_ret
    exact ⟨_, rfl, RowIs.nil _ _ _ _ _, Below.refl _ _⟩
  · subst e1
    by_cases h0 : l.length = 0
    · have e3 : l = [] := List.length_eq_zero_iff.1 h0
      subst e3
      clear h h4 h1 h3
      simp only [List.length_nil]
      go_enter Tryz.func45, Tryz.ntmps45
      go_wp2
      go_ret
      exact ⟨_, rfl, row_none pnC w _ _ (Nat.le_refl _), (Below.refl _ _).alloc (Nat.le_refl _) _⟩
    · have hA : Below w.heap.size w (w.alloc (.cells #[] 52)) := (Below.refl _ _).alloc (Nat.le_refl _) _
      obtain ⟨b', cap', ev, hnews, -, -⟩ := row_cellsG (h.below hA) rfl (by omega)
      simp only [Value.slice.injEq, Option.some.injEq, Addr.mk.injEq, and_true, true_and] at ev
      obtain ⟨rfl, rfl⟩ := ev
      have HN := hideP hnews
      have HA := hideP hA
      clear h h4 h1 h3 hnews hA
      have h0' : 0 < l.length := by omega
      have RN := hideP (row_none pnC w 52 w.heap.size (Nat.le_refl _))
      go_enter Tryz.func45, Tryz.ntmps45
      go_wp2_with (at_builtin; refine wpList_append_lies _ rfl _ _ 48 rfl w.heap.size 52 i0 _ 4 40 Tryz.underlying48 hi hz0 hz1 hz2 rfl (by decide) _ 0 [] rfl RN.out ⟨b, 0, none⟩ l.length cap (l.flatMap pnC) rfl (pns_len l) HN.out (pns_one l) h0' (by unfold maxLen; omega) (by omega) (by simp) (w.heap.size + 1) (by simp) ?_; intro gg cp w2 hown2 hg2 hat2 hlt2)
      go_ret
      refine ⟨_, rfl, ?_, ?_⟩
      · unfold RowIs
        rw [Nat.zero_add, List.nil_append] at hown2
        exact hown2
      · exact HA.out.trans (Below.grown (Below.refl _ _) hg2 (by simp) (fun j hj => Nat.le_of_eq (Option.some.inj hj)))

set_option maxRecDepth 100000 in
set_option maxHeartbeats 2000000 in
theorem cloneE_any (l : List (M.Ev ByteArray)) (v : Value) (w : World) (h : RowIs evC w 0 54 4 v l) (hn : l.length ≤ 100000000) :
    Calls Tryz.prog 46 #[v] w fun r w' => ∃ v', r = .returned v' ∧ RowIs evC w' w.heap.size 54 4 v' l ∧ Below w.heap.size w w' := by
  obtain ⟨i0, hi, hz0, hz1, hz2⟩ := info_parts Tryz.infoTEvA
  have q1 := eqE_some
  have q2 := eqE_none
  rcases h.2 with ⟨e1, e2⟩ | ⟨b, cap, cur, e1, hb, hh, h1, h2, h3, h4⟩
  · have e3 : l = [] := List.length_eq_zero_iff.1 e2
    subst e3
    subst e1
    clear h e2
    go_enter Tryz.func46, Tryz.ntmps46
    go_wp2
    go_ret
    exact ⟨_, rfl, RowIs.nil _ _ _ _ _, Below.refl _ _⟩
  · subst e1
    by_cases h0 : l.length = 0
    · have e3 : l = [] := List.length_eq_zero_iff.1 h0
      subst e3
      clear h h4 h1 h3
      simp only [List.length_nil]
      go_enter Tryz.func46, Tryz.ntmps46
      go_wp2
      go_ret
      exact ⟨_, rfl, row_none evC w _ _ (Nat.le_refl _), (Below.refl _ _).alloc (Nat.le_refl _) _⟩
    · have hA : Below w.heap.size w (w.alloc (.cells #[] 54)) := (Below.refl _ _).alloc (Nat.le_refl _) _
      obtain ⟨b', cap', ev, hnews, -, -⟩ := row_cellsG (h.below hA) rfl (by omega)
      simp only [Value.slice.injEq, Option.some.injEq, Addr.mk.injEq, and_true, true_and] at ev
      obtain ⟨rfl, rfl⟩ := ev
      have HN := hideP hnews
      have HA := hideP hA
      clear h h4 h1 h3 hnews hA
      have h0' : 0 < l.length := by omega
      have RN := hideP (row_none evC w 54 w.heap.size (Nat.le_refl _))
      go_enter Tryz.func46, Tryz.ntmps46
      go_wp2_with (at_builtin; refine wpList_append_lies _ rfl _ _ 37 rfl w.heap.size 54 i0 _ 4 40 Tryz.underlying37 hi hz0 hz1 hz2 rfl (by decide) _ 0 [] rfl RN.out ⟨b, 0, none⟩ l.length cap (l.flatMap evC) rfl (evs_len l) HN.out (evs_one l) h0' (by unfold maxLen; omega) (by omega) (by simp) (w.heap.size + 1) (by simp) ?_; intro gg cp w2 hown2 hg2 hat2 hlt2)
      go_ret
      refine ⟨_, rfl, ?_, ?_⟩
      · unfold RowIs
        rw [Nat.zero_add, List.nil_append] at hown2
        exact hown2
      · exact HA.out.trans (Below.grown (Below.refl _ _) hg2 (by simp) (fun j hj => Nat.le_of_eq (Option.some.inj hj)))

end Go.Proofs.YtnnoaolceeendaaGreatDoor
