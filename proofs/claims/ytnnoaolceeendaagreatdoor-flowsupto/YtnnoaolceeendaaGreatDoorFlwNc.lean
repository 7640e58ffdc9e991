import Derived.Test.YtnnoaolceeendaaGreatDoorFlwX
import Derived.Test.YtnnoaolceeendaaGreatDoorLawC
import Derived.Test.YtnnoaolceeendaaGreatDoorLawF
namespace Go.Proofs.YtnnoaolceeendaaGreatDoor
open Go.ChangeShapes Go.WideShapes Go.ChangeAt Go.RowKit

/-- The program's flow at block g is the document's flow f. -/
structure Fx (w : World) (g : Nat) (C : Cf) (f : M.Fl ByteArray) (s : FS) : Prop where
  fl : FlowIs w g s
  rel : FRel s f
  C : s.C = C
  st : FSt w
  low : ∀ k, foot g s k → 1 ≤ k

def FA (w : World) (g : Nat) (C : Cf) (f : M.Fl ByteArray) (S : Nat → Prop) : Prop := ∃ s, Fx w g C f s ∧ ∀ k, S k ↔ foot g s k

theorem Fx.way {w w' : World} {g : Nat} {C : Cf} {f f' : M.Fl ByteArray} {s s' : FS} (h : Fx w g C f s) (hw : Way w w' g s s') (hr : FRel s' f') (hc : s'.C = s.C) : Fx w' g C f' s' :=
  ⟨hw.fl, hr, hc.trans h.C, hw.touch.fst h.st (fun hx => by have := h.low 0 hx; omega), fun k hk => (hw.foot k hk).elim (h.low k) (fun h' => by have := h.st.lt; omega)⟩

theorem good_cw {C : Cf} (h : C.good = true) : CfW C := by
  have := good_all h
  exact ⟨by omega, by omega, by omega, by omega, by omega, by omega⟩
theorem good_cb {C : Cf} (h : C.good = true) : CfB C := by
  have := good_all h
  exact ⟨by omega, by omega, by omega⟩

theorem Fx.takeOk {w : World} {g : Nat} {C : Cf} {f : M.Fl ByteArray} {s : FS} {N : Nat} (h : Fx w g C f s) (hg : C.good = true) (hr : Room f (N + 1)) (hk : FlOk C f) : TakeOk w g s f :=
  ⟨h.fl, h.rel, h.st, h.low, by rw [h.C]; exact good_cw hg, by rw [h.C]; exact good_cb hg, fun p hp => hk.most p hp, by rw [h.rel.plen]; exact hk.len, by have := hr.opn; omega, by have := hr.after; omega⟩
theorem Fx.moveOk {w : World} {g : Nat} {C : Cf} {f : M.Fl ByteArray} {s : FS} {N : Nat} (h : Fx w g C f s) (hg : C.good = true) (hr : Room f N) (hk : FlOk C f) : MoveOk w g s f :=
  ⟨h.fl, h.rel, by rw [h.C]; exact good_cb hg, fun p hp => hk.most p hp, by rw [h.rel.plen]; exact hk.len, by have := hr.opn; omega⟩

/-- A refusal, by the document's flow. -/
theorem ref_is {s : FS} {f : M.Fl ByteArray} (h : FRel s f) (n : Int) : refI s n = if n < 0 ∨ (f.parts.length : Int) ≤ n then 2 else if (f.parts.getD n.toNat M.newP).ended = true then 3 else 0 := by
  unfold refI
  rw [h.plen]
  by_cases h1 : n < 0 ∨ (f.parts.length : Int) ≤ n
  · rw [if_pos h1, if_pos h1]
  · rw [if_neg h1, if_neg h1]
    obtain ⟨i, rfl⟩ := Int.eq_ofNat_of_zero_le (show 0 ≤ n by omega)
    have hl : i < f.parts.length := by omega
    obtain ⟨p, hp⟩ : ∃ p, f.parts[i]? = some p := ⟨_, List.getElem?_eq_getElem hl⟩
    obtain ⟨q, hq⟩ : ∃ q, s.ps[i]? = some q := ⟨_, List.getElem?_eq_getElem (by rw [h.plen]; exact hl)⟩
    rw [Int.toNat_natCast, List.getD_eq_getElem?_getD, List.getD_eq_getElem?_getD, hq, hp]
    show (if q.ended = true then (3 : Int) else 0) = if p.ended = true then 3 else 0
    rw [(h.parts i q p hq hp).ended]

theorem can_part {s : FS} {f : M.Fl ByteArray} (h : FRel s f) {n : Int} (h1 : ¬ (n < 0 ∨ (f.parts.length : Int) ≤ n)) (h2 : (f.parts.getD n.toNat M.newP).ended = false) : ∃ (i : Nat) (q : IP), n = (i : Int) ∧ s.ps[i]? = some q ∧ q.ended = false := by
  obtain ⟨i, rfl⟩ := Int.eq_ofNat_of_zero_le (show 0 ≤ n by omega)
  have hl : i < f.parts.length := by omega
  obtain ⟨p, hp⟩ : ∃ p, f.parts[i]? = some p := ⟨_, List.getElem?_eq_getElem hl⟩
  obtain ⟨q, hq⟩ : ∃ q, s.ps[i]? = some q := ⟨_, List.getElem?_eq_getElem (by rw [h.plen]; exact hl)⟩
  refine ⟨i, q, rfl, hq, ?_⟩
  rw [(h.parts i q p hq hp).ended]
  rw [Int.toNat_natCast, List.getD_eq_getElem?_getD, hp] at h2
  exact h2

set_option maxHeartbeats 2000000 in
theorem take_no (g : Nat) (s : FS) (n : Int) (key : ByteArray) (at_ v : Int) (w : World) (h : FlowIs w g s) (hn : s.ps.length ≤ 8) (hr : refI s n ≠ 0) :
    Calls Tryz.prog 32 #[.pointer (some ⟨g, 0, none⟩), .agg #[.int .i64 n, .string key, .int .i64 at_, .int .i64 v]] w fun r w' => r = .returned (.int .i64 (refI s n)) ∧ Below w.heap.size w w' := by
  have hA : Below w.heap.size w (w.alloc (.cells #[.int .i64 n, .string key, .int .i64 at_, .int .i64 v] 54)) := (Below.refl _ _).alloc (Nat.le_refl _) _
  have RF := hideP (refusal_any g s n _ (h.below hA) hn)
  obtain ⟨k, hk⟩ : ∃ k, refI s n = k := ⟨_, rfl⟩
  rw [hk] at RF hr ⊢
  have HA := hideP hA
  clear hk h hA
  go_enter Tryz.func32, Tryz.ntmps32
  go_wp2_with (go_at_call 50; refine RF.out.mono ?_; rintro r w9 ⟨rfl, rfl⟩)
  go_ret
  exact ⟨rfl, HA.out⟩

set_option maxRecDepth 100000 in
set_option maxHeartbeats 4000000 in
theorem oboPut_any (g : Nat) (C : Cf) (hC : C.good = true) (f : M.Fl ByteArray) (s : FS) (es : List (M.Ev ByteArray)) (v : Value) (w : World) (h : Fx w g C f s) (he : EvsAt w v es) (hn : ∀ b, heldIn v = some b → ¬ foot g s b) (hts : timesOk es) (hroom : Room f es.length) (hok : FlOk C f) :
    Calls Tryz.prog 31 #[v, .func (.func 32) #[.pointer (some ⟨g, 0, none⟩)] #[]] w fun r w' => r = .returned (.tuple #[.int .i64 (putR C es f).1, .int .i64 (putR C es f).2.1]) ∧ ∃ s', Way w w' g s s' ∧ Fx w' g C (putR C es f).2.2 s' := by
  obtain ⟨a0, cap, rfl⟩ := he.form
  have hlen : es.length ≤ 50000000 := by have := hroom.after; omega
  have HE := hideP he
  have HN := hideP hn
  have HTS := hideP hts
  have HF := hideP h
  clear he hn hts h
  go_enter Tryz.func31, Tryz.ntmps31
  go_wp2
  go_loopw [11] (fun ii wr => ∃ k : Nat, k ≤ es.length ∧ ii = .int .i64 k ∧ Hid (∀ j e, j < k → es[j]? = some e → canTake (putTo C es j f) e) ∧ (∃ s1, Hid (Way w wr g s s1 ∧ Fx wr g C (putTo C es k f) s1)) ∧ Hid (Room (putTo C es k f) (es.length - k)) ∧ Hid (FlOk C (putTo C es k f))) (fun ii _ => es.length - (intOf ii).toNat)
  case atStart => exact ⟨0, Nat.zero_le _, rfl, fun j e hj => by omega, ⟨s, Way.start HF.out.fl, HF.out⟩, hroom, hok⟩
  case round =>
    obtain ⟨k, hk, rfl, HCT, ⟨s1, HS⟩, HRM, HOK⟩ := hrel
    clear hroom hok
    by_cases hlt : k < es.length
    · obtain ⟨e, hx⟩ : ∃ e, es[k]? = some e := ⟨_, List.getElem?_eq_getElem hlt⟩
      obtain ⟨b, off, cp, ev, hb, m0, m1, m2, m3⟩ := (HE.out.touch HS.out.1.touch HN.out).lies k e hx
      simp only [Value.slice.injEq] at ev
      obtain ⟨rfl, -, rfl⟩ := ev
      have hpl := putR_all C es f k HCT.out hk
      have hdr : es.drop k = e :: es.drop (k + 1) := by
        rw [List.drop_eq_getElem_cons hlt, (List.getElem?_eq_some_iff.1 hx).2]
      rw [hdr, putR] at hpl
      have HPL := hideP hpl
      have HX := hideP hx
      have htm := HTS.out e (List.mem_of_getElem? hx)
      have hsuc := putTo_succ C hx f
      have HSU := hideP hsuc
      have i1 : (0 : Int) ≤ (k : Int) := by omega
      have i2 : (k : Int) < (es.length : Int) := by omega
      have hA : Below wr.heap.size wr (wr.alloc (.cells #[.int .i64 e.part, .string e.key, .int .i64 e.at_, .int .i64 e.val] 54)) := (Below.refl _ _).alloc (Nat.le_refl _) _
      have WA := way_below HS.out.2.fl hA
      have FA1 : Fx (wr.alloc (.cells #[.int .i64 e.part, .string e.key, .int .i64 e.at_, .int .i64 e.val] 54)) g C (putTo C es k f) s1 := HS.out.2.way WA HS.out.2.rel rfl
      have HRI := hideP (ref_is HS.out.2.rel e.part)
      have hps : s1.ps.length ≤ 8 := by rw [HS.out.2.rel.plen]; exact HOK.out.len
      clear hx hpl hdr hsuc
      by_cases hc : canTake (putTo C es k f) e
      · obtain ⟨i, q, hi, hq, hqe⟩ := can_part HS.out.2.rel hc.1 hc.2
        have hRM : Room (putTo C es k f) ((es.length - (k + 1)) + 1) := by rw [show es.length - (k + 1) + 1 = es.length - k by omega]; exact HRM.out
        have TY := take_yes g s1 (putTo C es k f) i e.key e.at_ e.val q _ (FA1.takeOk hC hRM HOK.out) ⟨htm.1, htm.2.1⟩ htm.2.2.1 ⟨htm.2.2.2.1, htm.2.2.2.2⟩ hq hqe
        rw [← hi, HS.out.2.C] at TY
        have hee : (⟨e.part, e.key, e.at_, e.val⟩ : M.Ev ByteArray) = e := rfl
        rw [hee, ← HSU.out] at TY
        have HTY := hideP TY
        have R2 := hideP (hRM.take C e)
        have O2 := hideP (HOK.out.take e htm.1 htm.2.1)
        have HFA := hideP FA1
        have HWA := hideP WA
        have HCT2 : Hid (∀ j e, j < k + 1 → es[j]? = some e → canTake (putTo C es j f) e) := fun j e' hj he' => by
          by_cases hjk : j < k
          · exact HCT.out j e' hjk he'
          · have : j = k := by omega
            subst this
            rw [HX.out] at he'
            cases he'
            exact hc
        rw [← HSU.out] at R2 O2
        clear TY hRM FA1 WA hA hq hi hc
        go_wp2_with (go_at_call 32; refine HTY.out.mono ?_; rintro r w2 ⟨rfl, s2, hw2, hr2, hc2⟩)
        have HS2 := hideP (show Way w w2 g s s2 ∧ Fx w2 g C (putTo C es (k + 1) f) s2 from ⟨(HS.out.1.trans HWA.out).trans hw2, HFA.out.way hw2 hr2 (by rw [hc2, HFA.out.C])⟩)
        clear hw2 hr2 hc2 HTY
        go_roundw
        case rel => exact ⟨k + 1, by omega, by go_num, HCT2, ⟨s2, HS2⟩, R2, O2⟩
        case measure => simp [intOf]; omega
      · obtain ⟨cd, hcd⟩ : ∃ c, refI s1 e.part = c := ⟨_, rfl⟩
        have hne : cd ≠ 0 := by
          rw [← hcd, HRI.out]
          intro hz
          apply hc
          by_cases h1 : e.part < 0 ∨ ((putTo C es k f).parts.length : Int) ≤ e.part
          · rw [if_pos h1] at hz; cases hz
          · rw [if_neg h1] at hz
            refine ⟨h1, ?_⟩
            by_cases h2 : ((putTo C es k f).parts.getD e.part.toNat M.newP).ended = true
            · rw [if_pos h2] at hz; cases hz
            · simpa using h2
        have hres : putR C es f = (k, cd, putTo C es k f) := by
          rw [HPL.out, ← hcd, HRI.out]
          by_cases h1 : e.part < 0 ∨ ((putTo C es k f).parts.length : Int) ≤ e.part
          · rw [if_pos h1, if_pos h1]; rfl
          · rw [if_neg h1, if_neg h1]
            by_cases h2 : ((putTo C es k f).parts.getD e.part.toNat M.newP).ended = true
            · rw [if_pos h2, if_pos h2]; rfl
            · exact absurd ⟨h1, by simpa using h2⟩ hc
        have TN := take_no g s1 e.part e.key e.at_ e.val _ FA1.fl hps (by rw [hcd]; exact hne)
        rw [hcd] at TN
        have HTN := hideP TN
        have HFA := hideP FA1
        have HWA := hideP WA
        have HRES := hideP hres
        clear TN FA1 WA hA hc hres hcd HPL HRI
        go_wp2_with (go_at_call 32; refine HTN.out.mono ?_; rintro r w2 ⟨rfl, hb2⟩)
        go_ret2
        rw [HRES.out]
        have W2 := way_below HFA.out.fl hb2
        exact ⟨rfl, s1, (HS.out.1.trans HWA.out).trans W2, HFA.out.way W2 HFA.out.rel rfl⟩
    · have ek : k = es.length := by omega
      subst ek
      have hres : putR C es f = (es.length, 0, putTo C es es.length f) := by
        rw [putR_all C es f es.length HCT.out (Nat.le_refl _), List.drop_length]
        rfl
      have HRES := hideP hres
      clear hres
      go_wp2
      go_ret2
      rw [HRES.out]
      exact ⟨rfl, s1, HS.out.1, HS.out.2⟩

set_option maxHeartbeats 2000000 in
theorem put_any (g : Nat) (C : Cf) (hC : C.good = true) (f : M.Fl ByteArray) (s : FS) (es : List (M.Ev ByteArray)) (v : Value) (w : World) (h : Fx w g C f s) (he : EvsAt w v es) (hn : ∀ b, heldIn v = some b → ¬ foot g s b) (hts : timesOk es) (hroom : Room f es.length) (hok : FlOk C f) :
    Calls Tryz.prog 11 #[.pointer (some ⟨g, 0, none⟩), v] w fun r w' => r = .returned (.tuple #[.int .i64 (putR C es f).1, .int .i64 (putR C es f).2.1]) ∧ ∃ s', Way w w' g s s' ∧ Fx w' g C (putR C es f).2.2 s' := by
  have O := hideP (oboPut_any g C hC f s es v w h he hn hts hroom hok)
  clear h he hn hts hroom hok
  go_enter Tryz.func11, Tryz.ntmps11
  go_wp2_with (go_at_call 31; refine O.out.mono ?_; rintro r w2 ⟨rfl, hr2⟩)
  go_ret2
  exact ⟨rfl, hr2⟩
end Go.Proofs.YtnnoaolceeendaaGreatDoor
namespace Go.Proofs.YtnnoaolceeendaaGreatDoor
open Go.ChangeShapes Go.WideShapes Go.ChangeAt Go.RowKit

set_option maxRecDepth 100000 in
set_option maxHeartbeats 4000000 in
theorem oboEnd_any (g : Nat) (C : Cf) (hC : C.good = true) (f : M.Fl ByteArray) (s : FS) (es : List Int) (v : Value) (w : World) (h : Fx w g C f s) (he : IntsAt w v es) (hn : ∀ b, heldIn v = some b → ¬ foot g s b) (hlen : es.length ≤ 50000000) (N : Nat) (hroom : Room f N) (hok : FlOk C f) :
    Calls Tryz.prog 43 #[v, .func (.func 44) #[.pointer (some ⟨g, 0, none⟩)] #[]] w fun r w' => r = .returned (.tuple #[.int .i64 (endR C es f).1, .int .i64 (endR C es f).2.1]) ∧ ∃ s', Way w w' g s s' ∧ Fx w' g C (endR C es f).2.2 s' := by
  obtain ⟨a0, cap, rfl⟩ := he.form
  have HE := hideP he
  have HN := hideP hn
  have HF := hideP h
  clear he hn h
  go_enter Tryz.func43, Tryz.ntmps43
  go_wp2
  go_loopw [11] (fun ii wr => ∃ k : Nat, k ≤ es.length ∧ ii = .int .i64 k ∧ Hid (∀ (j : Nat) (e : Int), j < k → es[j]? = some e → canEnd (endTo C es j f) e) ∧ (∃ s1, Hid (Way w wr g s s1 ∧ Fx wr g C (endTo C es k f) s1)) ∧ Hid (Room (endTo C es k f) N) ∧ Hid (FlOk C (endTo C es k f))) (fun ii _ => es.length - (intOf ii).toNat)
  case atStart => exact ⟨0, Nat.zero_le _, rfl, fun j e hj => by omega, ⟨s, Way.start HF.out.fl, HF.out⟩, hroom, hok⟩
  case round =>
    obtain ⟨k, hk, rfl, HCT, ⟨s1, HS⟩, HRM, HOK⟩ := hrel
    clear hroom hok
    by_cases hlt : k < es.length
    · obtain ⟨e, hx⟩ : ∃ e, es[k]? = some e := ⟨_, List.getElem?_eq_getElem hlt⟩
      obtain ⟨b, off, cp, ev, hb, m0⟩ := (HE.out.touch HS.out.1.touch HN.out).lies k e hx
      simp only [Value.slice.injEq] at ev
      obtain ⟨rfl, -, rfl⟩ := ev
      have hpl := endR_all C es f k HCT.out hk
      have hdr : es.drop k = e :: es.drop (k + 1) := by
        rw [List.drop_eq_getElem_cons hlt, (List.getElem?_eq_some_iff.1 hx).2]
      rw [hdr, endR] at hpl
      have HPL := hideP hpl
      have HX := hideP hx
      have hsuc := endTo_succ C hx f
      have HSU := hideP hsuc
      have i1 : (0 : Int) ≤ (k : Int) := by omega
      have i2 : (k : Int) < (es.length : Int) := by omega
      have HRI := hideP (ref_is HS.out.2.rel e)
      have hps : s1.ps.length ≤ 8 := by rw [HS.out.2.rel.plen]; exact HOK.out.len
      clear hx hpl hdr hsuc
      by_cases hc : canEnd (endTo C es k f) e
      · obtain ⟨i, q, hi, hq, hqe⟩ := can_part HS.out.2.rel hc.1 hc.2
        have TY := end_yes g s1 (endTo C es k f) i q wr (HS.out.2.moveOk hC HRM.out HOK.out) hq hqe
        rw [← hi, HS.out.2.C] at TY
        have hin : e.toNat = i := by rw [hi, Int.toNat_natCast]
        rw [← hin, ← HSU.out] at TY
        have HTY := hideP TY
        have R2 := hideP (HRM.out.fin C e.toNat)
        have O2 := hideP (HOK.out.fin e.toNat)
        have HCT2 : Hid (∀ (j : Nat) (e : Int), j < k + 1 → es[j]? = some e → canEnd (endTo C es j f) e) := fun j e' hj he' => by
          by_cases hjk : j < k
          · exact HCT.out j e' hjk he'
          · have : j = k := by omega
            subst this
            rw [HX.out] at he'
            cases he'
            exact hc
        rw [← HSU.out] at R2 O2
        clear TY hq hi hc hin
        go_wp2_with (go_at_call 44; refine HTY.out.mono ?_; rintro r w2 ⟨rfl, s2, hw2, hr2, hc2⟩)
        have HS2 := hideP (show Way w w2 g s s2 ∧ Fx w2 g C (endTo C es (k + 1) f) s2 from ⟨HS.out.1.trans hw2, HS.out.2.way hw2 hr2 (by rw [hc2, HS.out.2.C])⟩)
        clear hw2 hr2 hc2 HTY
        go_roundw
        case rel => exact ⟨k + 1, by omega, by go_num, HCT2, ⟨s2, HS2⟩, R2, O2⟩
        case measure => simp [intOf]; omega
      · obtain ⟨cd, hcd⟩ : ∃ c, refI s1 e = c := ⟨_, rfl⟩
        have hne : cd ≠ 0 := by
          rw [← hcd, HRI.out]
          intro hz
          apply hc
          by_cases h1 : e < 0 ∨ ((endTo C es k f).parts.length : Int) ≤ e
          · rw [if_pos h1] at hz; cases hz
          · rw [if_neg h1] at hz
            refine ⟨h1, ?_⟩
            by_cases h2 : ((endTo C es k f).parts.getD e.toNat M.newP).ended = true
            · rw [if_pos h2] at hz; cases hz
            · simpa using h2
        have hres : endR C es f = (k, cd, endTo C es k f) := by
          rw [HPL.out, ← hcd, HRI.out]
          by_cases h1 : e < 0 ∨ ((endTo C es k f).parts.length : Int) ≤ e
          · rw [if_pos h1, if_pos h1]; rfl
          · rw [if_neg h1, if_neg h1]
            by_cases h2 : ((endTo C es k f).parts.getD e.toNat M.newP).ended = true
            · rw [if_pos h2, if_pos h2]; rfl
            · exact absurd ⟨h1, by simpa using h2⟩ hc
        have TN := end_no g s1 e wr HS.out.2.fl hps (by rw [hcd]; exact hne)
        rw [hcd] at TN
        have HTN := hideP TN
        have HRES := hideP hres
        clear TN hc hres hcd HPL HRI
        go_wp2_with (go_at_call 44; refine HTN.out.mono ?_; rintro r w2 ⟨rfl, rfl⟩)
        go_ret2
        rw [HRES.out]
        exact ⟨rfl, s1, HS.out.1, HS.out.2⟩
    · have ek : k = es.length := by omega
      subst ek
      have hres : endR C es f = (es.length, 0, endTo C es es.length f) := by
        rw [endR_all C es f es.length HCT.out (Nat.le_refl _), List.drop_length]
        rfl
      have HRES := hideP hres
      clear hres
      go_wp2
      go_ret2
      rw [HRES.out]
      exact ⟨rfl, s1, HS.out.1, HS.out.2⟩

set_option maxHeartbeats 2000000 in
theorem end_any2 (g : Nat) (C : Cf) (hC : C.good = true) (f : M.Fl ByteArray) (s : FS) (es : List Int) (v : Value) (w : World) (h : Fx w g C f s) (he : IntsAt w v es) (hn : ∀ b, heldIn v = some b → ¬ foot g s b) (hlen : es.length ≤ 50000000) (N : Nat) (hroom : Room f N) (hok : FlOk C f) :
    Calls Tryz.prog 23 #[.pointer (some ⟨g, 0, none⟩), v] w fun r w' => r = .returned (.tuple #[.int .i64 (endR C es f).1, .int .i64 (endR C es f).2.1]) ∧ ∃ s', Way w w' g s s' ∧ Fx w' g C (endR C es f).2.2 s' := by
  have O := hideP (oboEnd_any g C hC f s es v w h he hn hlen N hroom hok)
  clear h he hn hroom hok
  go_enter Tryz.func23, Tryz.ntmps23
  go_wp2_with (go_at_call 43; refine O.out.mono ?_; rintro r w2 ⟨rfl, hr2⟩)
  go_ret2
  exact ⟨rfl, hr2⟩

set_option maxRecDepth 100000 in
set_option maxHeartbeats 4000000 in
theorem tick_any2 (g : Nat) (C : Cf) (hC : C.good = true) (f : M.Fl ByteArray) (s : FS) (n : Int) (N : Nat) (w : World) (h : Fx w g C f s) (hroom : Room f N) (hok : FlOk C f) :
    Calls Tryz.prog 35 #[.pointer (some ⟨g, 0, none⟩), .int .i64 n] w fun r w' => r = .returned (.int .i64 (tickR C n f).1) ∧ ∃ s', Way w w' g s s' ∧ Fx w' g C (tickR C n f).2 s' := by
  by_cases hn : n < 0 ∨ 1000 < n
  · have e1 : tickR C n f = (1, f) := by rw [tickR, if_pos hn]
    have HW : Hid (winB n 0 1000 = false) := by show _ = _; unfold winB; simp; omega
    have HF := hideP h
    rw [e1]
    clear h hroom hok e1
    go_enter Tryz.func35, Tryz.ntmps35
    go_wp2_with (go_at_call 49; refine (within_at _ _ _ _).mono ?_; rintro r w9 ⟨rfl, rfl⟩; rw [HW.out])
    go_ret
    exact ⟨rfl, s, Way.start HF.out.fl, HF.out⟩
  · obtain ⟨m, rfl⟩ := Int.eq_ofNat_of_zero_le (show 0 ≤ n by omega)
    have e1 : tickR C (m : Int) f = (0, ticksF C m f) := by rw [tickR, if_neg hn, Int.toNat_natCast]
    have HW : Hid (winB (m : Int) 0 1000 = true) := win_yes (by omega) (by omega)
    have hm : m ≤ 1000 := by omega
    have HF := hideP h
    rw [e1]
    clear h e1 hn
    go_enter Tryz.func35, Tryz.ntmps35
    go_wp2_with (go_at_call 49; refine (within_at _ _ _ _).mono ?_; rintro r w9 ⟨rfl, rfl⟩; rw [HW.out])
    go_loopw [9] (fun ii wr => ∃ k : Nat, k ≤ m ∧ ii = .int .i64 k ∧ ∃ s1, Hid (Way w9 wr g s s1 ∧ Fx wr g C (ticksF C k f) s1)) (fun ii _ => m - (intOf ii).toNat)
    case atStart => exact ⟨0, Nat.zero_le _, rfl, s, Way.start HF.out.fl, HF.out⟩
    case round =>
      obtain ⟨k, hk, rfl, s1, HS⟩ := hrel
      by_cases hlt : k < m
      · have TK := tick_any g s1 (ticksF C k f) wr (HS.out.2.moveOk hC (ticks_room C k f hroom) (ticks_ok C k f hok))
        rw [HS.out.2.C] at TK
        have HTK := hideP TK
        have i2 : (k : Int) < (m : Int) := by omega
        clear TK
        go_wp2_with (go_at_call 56; refine HTK.out.mono ?_; rintro r w2 ⟨rfl, s2, hw2, hr2, hc2⟩)
        have HS2 := hideP (show Way w9 w2 g s s2 ∧ Fx w2 g C (ticksF C (k + 1) f) s2 from ⟨HS.out.1.trans hw2, HS.out.2.way hw2 hr2 (by rw [hc2, HS.out.2.C])⟩)
        clear hw2 hr2 hc2 HTK
        go_roundw
        case rel => exact ⟨k + 1, by omega, by go_num, s2, HS2⟩
        case measure => simp [intOf]; omega
      · have ek : k = m := by omega
        subst ek
        go_wp2
        go_ret
        exact ⟨rfl, s1, HS.out.1, HS.out.2⟩

set_option maxHeartbeats 2000000 in
theorem mark_any (g : Nat) (s : FS) (w : World) (h : FlowIs w g s) : Calls Tryz.prog 27 #[.pointer (some ⟨g, 0, none⟩)] w fun r w' => r = .returned (.int .i64 s.m) ∧ w' = w := by
  have c7 := h.ob.at7
  clear h
  go_enter Tryz.func27, Tryz.ntmps27
  go_wp2
  go_ret
  exact ⟨rfl, rfl⟩
set_option maxHeartbeats 2000000 in
theorem panes_any2 (g : Nat) (s : FS) (w : World) (h : FlowIs w g s) (hn : s.told.length ≤ 100000000) : Calls Tryz.prog 24 #[.pointer (some ⟨g, 0, none⟩)] w fun r w' => ∃ v, r = .returned v ∧ RowIs pnC w' w.heap.size 52 4 v s.told ∧ Below w.heap.size w w' := by
  have c := h.ob.at265
  have CL := hideP (cloneP_any s.told s.tv w h.told hn)
  clear h
  go_enter Tryz.func24, Tryz.ntmps24
  go_wp2_with (go_at_call 45; refine CL.out.mono ?_; rintro r w2 ⟨v2, rfl, hr2, hb2⟩)
  go_ret
  exact ⟨_, rfl, hr2, hb2⟩
set_option maxHeartbeats 2000000 in
theorem late_any (g : Nat) (s : FS) (w : World) (h : FlowIs w g s) (hn : s.after.length ≤ 100000000) : Calls Tryz.prog 25 #[.pointer (some ⟨g, 0, none⟩)] w fun r w' => ∃ v, r = .returned v ∧ RowIs evC w' w.heap.size 54 4 v s.after ∧ Below w.heap.size w w' := by
  have c := h.ob.at266
  have CL := hideP (cloneE_any s.after s.av w h.late hn)
  clear h
  go_enter Tryz.func25, Tryz.ntmps25
  go_wp2_with (go_at_call 46; refine CL.out.mono ?_; rintro r w2 ⟨v2, rfl, hr2, hb2⟩)
  go_ret
  exact ⟨_, rfl, hr2, hb2⟩
end Go.Proofs.YtnnoaolceeendaaGreatDoor
namespace Go.Proofs.YtnnoaolceeendaaGreatDoor
open Go.ChangeShapes Go.WideShapes Go.ChangeAt Go.RowKit

theorem Tryz.infoPart : (Tryz.prog.info? 112).map (fun i => (i.zero, i.size, i.bytes)) = some (some (.agg #[.int .i64 0, .int .i64 0, .bool false]), 3, 24) := by kernel_rfl

theorem part_made {m : Nat} (h : m ≤ 8) : (madeCells (Value.agg #[.int .i64 0, .int .i64 0, .bool false]).cells (m * 3)).toList = List.flatMap ipC (List.replicate m ⟨0, 0, false⟩) := by
  rcases (show m = 0 ∨ m = 1 ∨ m = 2 ∨ m = 3 ∨ m = 4 ∨ m = 5 ∨ m = 6 ∨ m = 7 ∨ m = 8 by omega) with rfl | rfl | rfl | rfl | rfl | rfl | rfl | rfl | rfl <;> kernel_rfl

def partsTo (m k : Nat) : List IP := List.replicate k ⟨0, -9223372036854775808, false⟩ ++ List.replicate (m - k) ⟨0, 0, false⟩
theorem partsTo_len {m k : Nat} (h : k ≤ m) : (partsTo m k).length = m := by unfold partsTo; simp; omega
theorem partsTo_at {m k : Nat} (h : k < m) : (partsTo m k)[k]? = some ⟨0, 0, false⟩ := by
  unfold partsTo
  rw [List.getElem?_append_right (by simp), List.length_replicate, Nat.sub_self, List.getElem?_replicate, if_pos (by omega)]
theorem partsTo_set {m k : Nat} (h : k < m) : (partsTo m k).set k ⟨0, -9223372036854775808, false⟩ = partsTo m (k + 1) := by
  unfold partsTo
  rw [List.set_append_right _ _ (by simp)]
  obtain ⟨n, hn⟩ : ∃ n, m - k = n + 1 := ⟨m - k - 1, by omega⟩
  rw [hn, show m - (k + 1) = n by omega, List.length_replicate, Nat.sub_self, List.replicate_succ, List.set_cons_zero, List.replicate_succ', List.append_assoc]
  rfl

set_option maxHeartbeats 2000000 in
theorem newParts_any (m : Nat) (h8 : m ≤ 8) (w : World) :
    Calls Tryz.prog 29 #[.int .i64 (m : Int)] w fun r w' => r = .returned (.slice (some ⟨w.heap.size, 0, none⟩) m m) ∧ RowIs ipC w' w.heap.size 112 3 (.slice (some ⟨w.heap.size, 0, none⟩) m m) (List.replicate m ⟨0, -9223372036854775808, false⟩) ∧ Below w.heap.size w w' := by
  obtain ⟨i0, hi, hz0, hz1, hz2⟩ := info_parts Tryz.infoPart
  go_enter Tryz.func29, Tryz.ntmps29
  go_wp2_with (at_make; refine wpList_make_full _ rfl _ _ 74 rfl w.heap.size 112 i0 _ 3 Tryz.underlying74 hi hz0 hz1 _ _ _ _ m rfl rfl rfl rfl (by rw [hz2]; omega) (by unfold maxLen; omega) (by simp) ?_; intro w1 hown hgrow)
  rw [part_made h8] at hown
  have H0 : Hid (RowIs ipC w1 w.heap.size 112 3 (.slice (some ⟨w.heap.size, 0, none⟩) m m) (partsTo m 0)) := by
    show World.ownsRow _ _ _ _ _ _ _
    rw [partsTo_len (Nat.zero_le _)]
    exact hown
  have B0 := hideP ((Below.refl _ _).grown hgrow (Nat.le_refl _) (by simp) : Below w.heap.size w w1)
  clear hown hgrow
  go_loopw [9] (fun i wr => ∃ k : Nat, k ≤ m ∧ i = .int .i64 k ∧ Hid (RowIs ipC wr w.heap.size 112 3 (.slice (some ⟨w.heap.size, 0, none⟩) m m) (partsTo m k)) ∧ Hid (Below w.heap.size w wr)) (fun i _ => m - (intOf i).toNat)
  case atStart => exact ⟨0, Nat.zero_le _, rfl, H0, B0⟩
  case round =>
    obtain ⟨k, hk, rfl, HR, HB⟩ := hrel
    by_cases hlt : k < m
    · have hr : RowIs ipC wr w.heap.size 112 3 (.slice (some ⟨w.heap.size, 0, none⟩) (partsTo m k).length m) (partsTo m k) := by rw [partsTo_len hk]; exact HR.out
      obtain ⟨pb, cap, ev, -, hpb, hcl, -⟩ := hr.at ipC_len (partsTo_at hlt)
      simp only [Value.slice.injEq, Option.some.injEq, Addr.mk.injEq, and_true, true_and] at ev
      obtain ⟨rfl, -⟩ := ev
      have m1 : wr.cell? ⟨w.heap.size, k * 3 + 1, none⟩ = some (.int .i64 0) := (hcl 1 (by omega)).trans rfl
      have f1 := hr.frozen (k * 3 + 1)
      have hs := (RowIs.set hr ipC_len (j := 1) (y := ⟨0, -9223372036854775808, false⟩) (u := .int .i64 (-9223372036854775808)) (partsTo_at hlt) (by omega) rfl).1
      rw [partsTo_set hlt, partsTo_len hk] at hs
      have HS := hideP hs
      have i1 : (0 : Int) ≤ (k : Int) := by omega
      have i2 : (k : Int) < (m : Int) := by omega
      clear hs hcl hr
      go_wp2
      go_roundw
      case rel => exact ⟨k + 1, by omega, by go_num, HS, HB.out.setCell (Nat.le_refl _) _⟩
      case measure => simp [intOf]; omega
    · have ek : k = m := by omega
      subst ek
      go_wp2
      go_ret
      refine ⟨rfl, ?_, HB.out⟩
      have := HR.out
      unfold partsTo at this
      rw [Nat.sub_self, List.replicate_zero, List.append_nil] at this
      exact this

/-! ### The wheel, all zero but its mark and its map -/
def wz : Array Value := #[.int .i64 0, .map none] ++ Array.replicate 256 (.slice none 0 0)
theorem wz_size : wz.size = 258 := by simp [wz]
theorem wz_at {i : Nat} (h : 2 ≤ i) (h2 : i < 258) : wz[i]? = some (.slice none 0 0) := by
  unfold wz
  rw [Array.getElem?_append_right (by simpa using h), Array.getElem?_replicate, if_pos (by simp; omega)]
theorem Tryz.infoWh : (Tryz.prog.info? 80).map (fun i => (i.zero, i.size)) = some (some (.agg wz), 258) := by kernel_rfl
theorem zeroWh (w : World) : (zeroValue 80).run Tryz.prog w = .ok (.agg wz) w := by
  have h := Tryz.infoWh
  cases hq : Tryz.prog.info? 80 with
  | none => simp [hq] at h
  | some i =>
    simp only [hq, Option.map_some, Option.some.injEq, Prod.mk.injEq] at h
    simp [zeroValue, typeInfo, hq, h.1]
theorem wz_one : wz.all (·.oneCell') = true := by kernel_rfl
theorem wheel_parts : ∃ (z : Array Value), (∀ w, (zeroValue 80).run Tryz.prog w = .ok (.agg z) w) ∧ z.size = 258 ∧ z.all (·.oneCell') = true ∧ ∀ i, 2 ≤ i → i < 258 → z[i]? = some (.slice none 0 0) :=
  ⟨wz, zeroWh, wz_size, wz_one, fun _ h1 h2 => wz_at h1 h2⟩
theorem Tryz.sizeWh : (Tryz.prog.info? 80).map (·.size) = some 258 := by kernel_rfl
theorem all_set {z : Array Value} (h : z.all (·.oneCell') = true) (i : Nat) (v : Value) (hv : v.oneCell' = true) : (z.setIfInBounds i v).all (·.oneCell') = true := by
  rw [Array.all_eq_true_iff_forall_mem] at h ⊢
  intro x hx
  rcases Array.mem_or_eq_of_mem_setIfInBounds hx with h' | h'
  · exact h x h'
  · subst h'; exact hv
theorem wheel_side {z : Array Value} (h : z.size = 258) (h1 : z.all (·.oneCell') = true) (v u : Value) (hv : v.oneCell' = true) (hu : u.oneCell' = true) :
    (Tryz.prog.info? 80).map (·.size) = some ((z.setIfInBounds 0 v).setIfInBounds 1 u).size ∧ z.size = ((z.setIfInBounds 0 v).setIfInBounds 1 u).size ∧ ((z.setIfInBounds 0 v).setIfInBounds 1 u).all (·.oneCell') = true :=
  ⟨by rw [Tryz.sizeWh]; simp [h], by simp, all_set (all_set h1 0 v hv) 1 u hu⟩
theorem Below_setRow {B : Nat} {a w : World} (h : Below B a w) {g : Nat} (hp : B ≤ g) (cs : Array Value) : Below B a (w.setRow g cs) :=
  ⟨h.os, h.tape, h.output, by simpa using h.size, fun k hk => by rw [setRow_other w g k cs (by omega)]; exact h.block k hk⟩

/-- What newWheel answers. -/
structure WhNew (w w' : World) (cs : Array Value) (bt : Nat) : Prop where
  size : cs.size = 258
  mark : cs[0]? = some (.int .i64 (-9223372036854775808))
  tls : cs[1]? = some (.map (some bt))
  slots : ∀ i, 2 ≤ i → i < 258 → cs[i]? = some (.slice none 0 0)
  map : TlsAt w' bt (fun _ => none)
  new : w.heap.size ≤ bt
  below : Below w.heap.size w w'

set_option maxRecDepth 100000 in
theorem newWheel_any (w : World) :
    Calls Tryz.prog 30 #[] w fun r w' => ∃ cs : Array Value, r = .returned (.agg cs) ∧ ∃ bt, WhNew w w' cs bt := by
  obtain ⟨z, hz, hzs, hz1, hzz⟩ := wheel_parts
  have hne : ¬ z = #[] := by intro h; rw [h] at hzs; simp at hzs
  have hmm := @run_makeMap Tryz.prog
  have hz1' : Hid _ := hz1
  have HZZ := hideP hzz
  clear hz1 hzz
  go_enter Tryz.func30, Tryz.ntmps30
  go_wp2_with (refine wpList_store_row rfl 80 _ _ rfl w.heap.size _ rfl rfl 80 z (by rw [heap_alloc2_old]) (wheel_side hzs hz1'.out _ _ rfl rfl).1 (wheel_side hzs hz1'.out _ _ rfl rfl).2.1 (wheel_side hzs hz1'.out _ _ rfl rfl).2.2 ?_)
  refine bodyPost_ret (results_cell_row Tryz.results30 _ _ w.heap.size 80 _ (0, 0) _ rfl (setRow_heap _ _ z _ 80 (0, 0) (by rw [heap_alloc2_old])) Tryz.underlying80 rfl (wheel_side hzs hz1'.out _ _ rfl rfl).1) rfl ⟨_, rfl, w.heap.size + 1, ?_⟩
  refine ⟨by simp [hzs], ?_, ?_, fun i h1 h2 => ?_, ?_, by omega, Below_setRow (((Below.refl _ _).alloc (Nat.le_refl _) _).alloc (by simp) _) (Nat.le_refl _) _⟩
  · rw [Array.getElem?_setIfInBounds, if_neg (by omega), Array.getElem?_setIfInBounds, if_pos rfl, if_pos (by omega)]
  · rw [Array.getElem?_setIfInBounds, if_pos rfl, if_pos (by simp; omega)]
  · rw [Array.getElem?_setIfInBounds, if_neg (by omega), Array.getElem?_setIfInBounds, if_neg (by omega)]
    exact HZZ.out i h1 h2
  · have h1 := TlsAt.made (w.alloc (.cells z 80))
    have h2 : (w.alloc (.cells z 80)).heap.size = w.heap.size + 1 := by simp
    rw [h2] at h1
    exact h1.agree (setRow_other _ _ _ _ (by omega))
end Go.Proofs.YtnnoaolceeendaaGreatDoor
namespace Go.Proofs.YtnnoaolceeendaaGreatDoor
open Go.ChangeShapes Go.WideShapes Go.ChangeAt Go.RowKit

def fz : Array Value := #[.int .i64 0, .int .i64 0, .int .i64 0, .int .i64 0, .int .i64 0, .int .i64 0, .slice none 0 0, .int .i64 0, .map none] ++ Array.replicate 256 (.slice none 0 0) ++ #[.slice none 0 0, .slice none 0 0]
theorem fz_size : fz.size = 267 := by simp [fz]
theorem Tryz.infoFl : (Tryz.prog.info? 83).map (fun i => (i.zero, i.size)) = some (some (.agg fz), 267) := by kernel_rfl
theorem zeroFl (w : World) : (zeroValue 83).run Tryz.prog w = .ok (.agg fz) w := by
  have h := Tryz.infoFl
  cases hq : Tryz.prog.info? 83 with
  | none => simp [hq] at h
  | some i =>
    simp only [hq, Option.map_some, Option.some.injEq, Prod.mk.injEq] at h
    simp [zeroValue, typeInfo, hq, h.1]
theorem fz_end : fz[265]? = some (.slice none 0 0) ∧ fz[266]? = some (.slice none 0 0) := ⟨by kernel_rfl, by kernel_rfl⟩
theorem flow_parts : ∃ (z : Array Value), (∀ w, (zeroValue 83).run Tryz.prog w = .ok (.agg z) w) ∧ z.size = 267 ∧ ¬ z = #[] ∧ z[265]? = some (.slice none 0 0) ∧ z[266]? = some (.slice none 0 0) :=
  ⟨fz, zeroFl, fz_size, by intro h; have := fz_size; rw [h] at this; simp at this, fz_end⟩

/-- Cells laid in from a place on. -/
theorem laid_in (o : Nat) : ∀ (l : List Value) (k : Nat) (a : Array Value), ((l.zipIdx k).foldl (fun cs x => cs.setIfInBounds (o + x.snd) x.fst) a).size = a.size ∧ ∀ i, i < a.size → ((l.zipIdx k).foldl (fun cs x => cs.setIfInBounds (o + x.snd) x.fst) a)[i]? = if o + k ≤ i ∧ i < o + k + l.length then l[i - (o + k)]? else a[i]?
  | [], k, a => ⟨rfl, fun i _ => by rw [if_neg (by simp)]; rfl⟩
  | x :: l, k, a => by
    have ih := laid_in o l (k + 1) (a.setIfInBounds (o + k) x)
    simp only [List.zipIdx_cons, List.foldl_cons]
    refine ⟨by rw [ih.1]; simp, fun i hi => ?_⟩
    rw [ih.2 i (by simpa using hi), List.length_cons]
    by_cases h1 : o + k = i
    · rw [if_neg (by omega), if_pos (by omega), Array.getElem?_setIfInBounds, if_pos h1, if_pos (by omega), show i - (o + k) = 0 by omega]
      rfl
    · by_cases h2 : o + k ≤ i ∧ i < o + k + (l.length + 1)
      · rw [if_pos (by omega), if_pos h2, show i - (o + k) = (i - (o + (k + 1))) + 1 by omega, List.getElem?_cons_succ]
      · rw [if_neg (by omega), if_neg h2, Array.getElem?_setIfInBounds, if_neg h1]

theorem laid_arr {cs z : Array Value} (hc : cs.size = 258) : Array.foldl (fun cs x => cs.setIfInBounds (7 + x.snd) x.fst) z cs.zipIdx 0 258 = (cs.toList.zipIdx).foldl (fun cs x => cs.setIfInBounds (7 + x.snd) x.fst) z := by
  have h1 : cs.zipIdx.size = 258 := by simp [hc]
  rw [← Array.toList_zipIdx, Array.foldl_toList, h1]

/-- The new flow's cells. -/
def newS (C : Cf) (pb m bt : Nat) : FS := ⟨C, .slice (some ⟨pb, 0, none⟩) m m, List.replicate m ⟨0, -9223372036854775808, false⟩, -9223372036854775808, bt, fun _ => none, fun _ _ => none, fun _ _ => .slice none 0 0, fun _ _ => [], .slice none 0 0, [], .slice none 0 0, []⟩

theorem newF_inv0 (size : Int) (n : Nat) : M.Inv ltK size (M.newF n : M.Fl ByteArray) :=
  ⟨⟨fun p hp => by simp [M.newF] at hp, List.Pairwise.nil⟩, fun p hp => by simp [M.newF] at hp, List.Pairwise.nil, by simp [M.newF, M.minT, M.maxT], by simp [M.newF, M.minT]⟩

theorem new_rel (C : Cf) (pb m bt : Nat) : FRel (newS C pb m bt) (M.newF m) := by
  refine ⟨rfl, rfl, rfl, newF_inv0 _ _, fun e k n => ?_, fun e => ?_, fun p hp => by simp [M.newF] at hp, fun l d e _ _ he => by simp [newS] at he, ?_, by simp [newS, M.newF], fun i q p hq hp => ?_⟩
  · constructor
    · intro hx; cases hx
    · rintro ⟨p, hp, -⟩; simp [M.newF] at hp
  · constructor
    · intro hx; cases hx
    · rintro ⟨p, hp, -⟩; simp [M.newF] at hp
  · refine ⟨fun x hx => ?_, fun x hx => ?_, fun l d x _ _ => ?_, fun l d _ _ => List.Pairwise.nil⟩
    · obtain ⟨e, he, -⟩ := hx; cases he
    · obtain ⟨e, he, -⟩ := hx; cases he
    · constructor
      · intro hx; simp [newS] at hx
      · rintro ⟨⟨e, he, -⟩, -⟩; cases he
  · have hq2 : (List.replicate m (⟨0, -9223372036854775808, false⟩ : IP))[i]? = some q := hq
    have hp2 : (List.replicate m M.newP)[i]? = some p := hp
    have e1 := List.eq_of_mem_replicate (List.mem_of_getElem? hq2)
    have e2 := List.eq_of_mem_replicate (List.mem_of_getElem? hp2)
    subst e1 e2
    refine ⟨rfl, rfl, fun _ => ⟨Int.le_refl _, rfl, ?_⟩⟩
    show false = _
    by_cases h0 : 0 < C.idle
    · have : ¬ C.idle ≤ 0 := by omega
      show false = (decide (0 < C.idle) && decide (C.idle ≤ 0))
      simp [this]
    · show false = (decide (0 < C.idle) && decide (C.idle ≤ 0))
      simp [h0]

theorem new_flow {w w1 w2 w3 : World} {C : Cf} {m bt pb : Nat} {cs z : Array Value} (hz : z.size = 267) (h5 : z[265]? = some (.slice none 0 0)) (h6 : z[266]? = some (.slice none 0 0)) (hL : FSt w) (hB1 : Below w.heap.size w w1) (hpb : w.heap.size ≤ pb) (hr : RowIs ipC w2 pb 112 3 (.slice (some ⟨pb, 0, none⟩) m m) (List.replicate m ⟨0, -9223372036854775808, false⟩)) (hB2 : Below w1.heap.size w1 w2) (hN : WhNew w2 w3 cs bt) :
    Fx (w3.alloc (.cells (Array.foldl (fun cs x => cs.setIfInBounds (7 + x.snd) x.fst) (((((((z.setIfInBounds 0 (.int .i64 C.size)).setIfInBounds 1 (.int .i64 C.slide)).setIfInBounds 2 (.int .i64 C.bound)).setIfInBounds 3 (.int .i64 C.idle)).setIfInBounds 4 (.int .i64 C.parts)).setIfInBounds 5 (.int .i64 C.fold)).setIfInBounds 6 (.slice (some ⟨pb, 0, none⟩) m m)) cs.zipIdx 0 258) 83)) w3.heap.size C (M.newF m) (newS C pb m bt) ∧
      Below w.heap.size w (w3.alloc (.cells (Array.foldl (fun cs x => cs.setIfInBounds (7 + x.snd) x.fst) (((((((z.setIfInBounds 0 (.int .i64 C.size)).setIfInBounds 1 (.int .i64 C.slide)).setIfInBounds 2 (.int .i64 C.bound)).setIfInBounds 3 (.int .i64 C.idle)).setIfInBounds 4 (.int .i64 C.parts)).setIfInBounds 5 (.int .i64 C.fold)).setIfInBounds 6 (.slice (some ⟨pb, 0, none⟩) m m)) cs.zipIdx 0 258) 83)) ∧ ∀ k, foot w3.heap.size (newS C pb m bt) k → w.heap.size ≤ k := by
  rw [laid_arr hN.size]
  obtain ⟨arr, harr⟩ : ∃ x, x = (cs.toList.zipIdx).foldl (fun cs x => cs.setIfInBounds (7 + x.snd) x.fst) (((((((z.setIfInBounds 0 (.int .i64 C.size)).setIfInBounds 1 (.int .i64 C.slide)).setIfInBounds 2 (.int .i64 C.bound)).setIfInBounds 3 (.int .i64 C.idle)).setIfInBounds 4 (.int .i64 C.parts)).setIfInBounds 5 (.int .i64 C.fold)).setIfInBounds 6 (.slice (some ⟨pb, 0, none⟩) m m)) := ⟨_, rfl⟩
  rw [← harr]
  have hla := laid_in 7 cs.toList 0 (((((((z.setIfInBounds 0 (.int .i64 C.size)).setIfInBounds 1 (.int .i64 C.slide)).setIfInBounds 2 (.int .i64 C.bound)).setIfInBounds 3 (.int .i64 C.idle)).setIfInBounds 4 (.int .i64 C.parts)).setIfInBounds 5 (.int .i64 C.fold)).setIfInBounds 6 (.slice (some ⟨pb, 0, none⟩) m m))
  rw [← harr] at hla
  have hcl : cs.toList.length = 258 := by rw [Array.length_toList]; exact hN.size
  rw [hcl] at hla
  simp only [Array.size_setIfInBounds, hz] at hla
  have hcell : ∀ i, i < 267 → arr[i]? = some ((newS C pb m bt).cell i) := fun i hi => by
    rw [hla.2 i hi]
    by_cases hmid : 7 + 0 ≤ i ∧ i < 7 + 0 + 258
    · rw [if_pos hmid, Array.getElem?_toList]
      by_cases h7 : i = 7
      · subst h7; exact hN.mark
      · by_cases h8 : i = 8
        · subst h8; exact hN.tls
        · rw [hN.slots (i - (7 + 0)) (by omega) (by omega)]
          unfold FS.cell
          rw [if_neg (by omega), if_neg (by omega), if_neg (by omega), if_neg (by omega), if_neg (by omega), if_neg (by omega), if_neg (by omega), if_neg (by omega), if_neg (by omega), if_pos (by omega)]
          rfl
    · rw [if_neg hmid]
      rcases (show i = 0 ∨ i = 1 ∨ i = 2 ∨ i = 3 ∨ i = 4 ∨ i = 5 ∨ i = 6 ∨ i = 265 ∨ i = 266 by omega) with rfl | rfl | rfl | rfl | rfl | rfl | rfl | rfl | rfl
      all_goals simp only [Array.getElem?_setIfInBounds, Array.size_setIfInBounds, hz]
      all_goals first | rfl | (simp only [reduceCtorEq, if_false]; first | exact h5 | exact h6) | skip
  have hB3 : Below w.heap.size w w3 := (hB1.trans (hB2.mono hB1.size)).trans (hN.below.mono (Nat.le_trans hB1.size hB2.size))
  have hB : Below w.heap.size w (w3.alloc (.cells arr 83)) := hB3.alloc hB3.size _
  have hA : Below w3.heap.size w3 (w3.alloc (.cells arr 83)) := (Below.refl _ _).alloc (Nat.le_refl _) _
  have hrow := ((hr.below hN.below).below hA).base (Nat.zero_le _)
  have hlow : ∀ k, foot w3.heap.size (newS C pb m bt) k → w.heap.size ≤ k := fun k hk => by
    rcases hk with rfl | hk | rfl | ⟨e, hk⟩ | ⟨l, d, -, -, hk⟩ | hk | hk
    · exact hB3.size
    · have : pb = k := Option.some.inj hk
      omega
    · exact Nat.le_trans (Nat.le_trans hB1.size hB2.size) hN.new
    · cases hk
    · cases hk
    · cases hk
    · cases hk
  refine ⟨⟨⟨⟨arr, heap_alloc_new w3 _, hla.1, hcell⟩, ?_, hN.map.agree (hA.block _ hN.map.lt), (fun e b hb => by cases hb), (fun e b hb => by cases hb), fun l d _ _ => RowIs.nil _ _ _ _ _, (fun l d l' d' k _ _ _ _ hk => by cases hk), RowIs.nil _ _ _ _ _, RowIs.nil _ _ _ _ _⟩, new_rel C pb m bt, rfl, hL.agree (hB.block 0 hL.lt), fun k hk => Nat.le_trans hL.lt (hlow k hk)⟩, hB, hlow⟩
  exact hrow

set_option maxRecDepth 100000 in
theorem New_no (a b c d e f : Int) (w : World) (h : goodB a b c d e f = false) :
    Calls Tryz.prog 7 #[.agg #[.int .i64 a, .int .i64 b, .int .i64 c, .int .i64 d, .int .i64 e, .int .i64 f]] w fun r w' => r = .returned (.tuple #[.pointer none, .int .i64 1]) ∧ Below w.heap.size w w' := by
  go_enter Tryz.func7, Tryz.ntmps7
  go_wp2_with (go_at_call 28; refine (good_any _ _ _ _ _ _ _).mono ?_; rintro r w1 ⟨rfl, hb1⟩)
  go_ret2
  exact ⟨rfl, ((Below.refl _ _).alloc (Nat.le_refl _) _).trans (hb1.mono (by simp))⟩

set_option maxRecDepth 100000 in
set_option maxHeartbeats 2000000 in
theorem New_yes (C : Cf) (m : Nat) (w : World) (hL : FSt w) (h : C.good = true) (hm : C.parts = (m : Int)) :
    Calls Tryz.prog 7 #[.agg #[.int .i64 C.size, .int .i64 C.slide, .int .i64 C.bound, .int .i64 C.idle, .int .i64 C.parts, .int .i64 C.fold]] w fun r w' => ∃ g, r = .returned (.tuple #[.pointer (some ⟨g, 0, none⟩), .int .i64 0]) ∧ ∃ s, Fx w' g C (M.newF m) s ∧ Below w.heap.size w w' ∧ ∀ k, foot g s k → w.heap.size ≤ k := by
  obtain ⟨z, hz, hzs, hne, hz5, hz6⟩ := flow_parts
  have HZ := hideP (And.intro hz5 hz6)
  have h8 := good_all h
  have hm8 : m ≤ 8 := by omega
  have hg : goodB C.size C.slide C.bound C.idle C.parts C.fold = true := h
  have NP : Hid (∀ w9 : World, Calls Tryz.prog 29 #[.int .i64 C.parts] w9 fun r w' => r = .returned (.slice (some ⟨w9.heap.size, 0, none⟩) m m) ∧ RowIs ipC w' w9.heap.size 112 3 (.slice (some ⟨w9.heap.size, 0, none⟩) m m) (List.replicate m ⟨0, -9223372036854775808, false⟩) ∧ Below w9.heap.size w9 w') := fun w9 => by rw [hm]; exact newParts_any m hm8 w9
  have HL := hideP hL
  clear hz5 hz6 h h8 hL hm
  go_enter Tryz.func7, Tryz.ntmps7
  go_wp2_with (go_at_call 28; refine (good_any _ _ _ _ _ _ _).mono ?_; rintro r w1 ⟨rfl, hb1⟩)
  obtain ⟨k0, k1, k2, k3, k4, k5, hlt⟩ := keep6 hb1 (b := w.heap.size) (by simp) (World.cell?_alloc_new ..) (World.cell?_alloc_new ..) (World.cell?_alloc_new ..) (World.cell?_alloc_new ..) (World.cell?_alloc_new ..) (World.cell?_alloc_new ..)
  have hB1 : Below w.heap.size w w1 := ((Below.refl _ _).alloc (Nat.le_refl _) _).trans (hb1.mono (by simp))
  have HB1 := hideP hB1
  have hz1 := hB1.size
  clear hb1 hB1
  go_region_with (first
    | (go_at_call 29; refine (NP.out _).mono ?_; rintro r w2 ⟨rfl, hr2, hb2⟩; obtain ⟨k0', k1', k2', k3', k4', k5', hlt'⟩ := keep6 hb2 hlt k0 k1 k2 k3 k4 k5; have HP := hideP (And.intro hr2 hb2); clear hr2 hb2)
    | (go_at_call 30; refine (newWheel_any _).mono ?_; rintro r w3 ⟨cs, rfl, bt, hN⟩; have hcs := hN.size; obtain ⟨k0'', k1'', k2'', k3'', k4'', k5'', hlt''⟩ := keep6 hN.below hlt' k0' k1' k2' k3' k4' k5'; have HN := hideP hN; clear hN))
  all_goals
    go_wp2
    go_ret2
    have hB2 : Below w1.heap.size w1 w2 := ⟨HP.out.2.os, HP.out.2.tape, HP.out.2.output, HP.out.2.size, HP.out.2.block⟩
    exact ⟨w3.heap.size, rfl, _, new_flow hzs HZ.out.1 HZ.out.2 HL.out HB1.out HB1.out.size HP.out.1 hB2 HN.out⟩
end Go.Proofs.YtnnoaolceeendaaGreatDoor
namespace Go.Proofs.YtnnoaolceeendaaGreatDoor
open Go.ChangeShapes Go.WideShapes Go.ChangeAt Go.RowKit

theorem FA.step {w w' : World} {g : Nat} {C : Cf} {f' : M.Fl ByteArray} {s s' : FS} {S : Nat → Prop} (hS : ∀ k, S k ↔ foot g s k) (hw : Way w w' g s s') (h : Fx w' g C f' s') : ∃ S', FA w' g C f' S' ∧ Touch S w w' ∧ ∀ k, S' k → S k ∨ w.heap.size ≤ k :=
  ⟨foot g s', ⟨s', h, fun _ => Iff.rfl⟩, hw.touch.mono (fun k hk => (hS k).2 hk), fun k hk => (hw.foot k hk).imp (fun h => (hS k).2 h) id⟩

/-- The landed flow keeps to the document. -/
theorem tide_is : Tide FSt 1 FA where
  here := fun {w w' g C f S} h e => by
    obtain ⟨s, hx, hS⟩ := h
    exact ⟨s, ⟨hx.fl.agree (fun k hk => e k (.inl ((hS k).2 hk))), hx.rel, hx.C, hx.st.agree (e 0 (.inr (by omega))), hx.low⟩, hS⟩
  lt := fun {w g C f S} h k hk => by
    obtain ⟨s, hx, hS⟩ := h
    exact hx.fl.foot_lt ((hS k).1 hk)
  low := fun {w g C f S} h k hk => by
    obtain ⟨s, hx, hS⟩ := h
    exact hx.low k ((hS k).1 hk)
  size := fun {w g C f S} h => by
    obtain ⟨s, hx, -⟩ := h
    exact hx.st.lt
  keep := fun {w w'} h hb => h.agree (hb.block 0 h.lt)
  base := fun {w} h => h.lt
  new_no := fun C w _ h => New_no _ _ _ _ _ _ w h
  new_yes := fun C w hL h => by
    have h8 := good_all h
    obtain ⟨m, hm⟩ := Int.eq_ofNat_of_zero_le (show 0 ≤ C.parts by omega)
    refine (New_yes C m w hL h hm).mono ?_
    rintro r w' ⟨g, rfl, s, hx, hb, hlow⟩
    refine ⟨g, foot g s, rfl, ⟨s, ?_, fun _ => Iff.rfl⟩, hb, hlow⟩
    rw [hm, Int.toNat_natCast]
    exact hx
  put := fun {w g C f S} es v h hg he hn hts hr hk => by
    obtain ⟨s, hx, hS⟩ := h
    refine (put_any g C hg f s es v w hx he (fun b hb hf => hn b hb ((hS b).2 hf)) hts hr hk).mono ?_
    rintro r w' ⟨rfl, s', hw, hx'⟩
    exact ⟨rfl, FA.step hS hw hx'⟩
  fin := fun {w g C f S} es v N h hg he hn hl hr hk => by
    obtain ⟨s, hx, hS⟩ := h
    refine (end_any2 g C hg f s es v w hx he (fun b hb hf => hn b hb ((hS b).2 hf)) hl N hr hk).mono ?_
    rintro r w' ⟨rfl, s', hw, hx'⟩
    exact ⟨rfl, FA.step hS hw hx'⟩
  tick := fun {w g C f S} n sb N h hg hr hk _ _ => by
    obtain ⟨s, hx, hS⟩ := h
    refine (tick_any2 g C hg f s n N w hx hr hk).mono ?_
    rintro r w' ⟨rfl, s', hw, hx'⟩
    exact ⟨rfl, FA.step hS hw hx'⟩
  look := fun {w g C f S} h => by
    obtain ⟨s, hx, -⟩ := h
    refine (mark_any g s w hx.fl).mono ?_
    rintro r w' ⟨rfl, rfl⟩
    exact ⟨by rw [hx.rel.now], 0, rfl⟩
  panes := fun {w g C f S} h hl => by
    obtain ⟨s, hx, -⟩ := h
    have := panes_any2 g s w hx.fl (by rw [hx.rel.told]; exact hl)
    rw [hx.rel.told] at this
    exact this
  late := fun {w g C f S} h hl => by
    obtain ⟨s, hx, -⟩ := h
    have := late_any g s w hx.fl (by rw [hx.rel.after]; exact hl)
    rw [hx.rel.after] at this
    exact this
end Go.Proofs.YtnnoaolceeendaaGreatDoor
