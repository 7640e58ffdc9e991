import Derived.Test.YtnnoaolceeendaaGreatDoorLawC
namespace Go.Proofs.YtnnoaolceeendaaGreatDoor
open Go.ChangeShapes Go.WideShapes Go.ChangeAt Go.RowKit

/-- What lies new from B on, apart from one another: the four lists of 'told'. -/
theorem row_below {α : Type} {enc : α → List Value} {w w' : World} {B e s : Nat} {v : Value} {l : List α} (h : RowIs enc w B e s v l) (hb : Below w.heap.size w w') : RowIs enc w' B e s v l ∧ ∀ b, v.ownBlock = some b → b < w.heap.size := ⟨h.below hb, fun b hb' => (h.lt b hb').2⟩

set_option maxRecDepth 100000 in
set_option maxHeartbeats 4000000 in
theorem told_any {L : World → Prop} {B0 : Nat} {FA : World → Nat → Cf → M.Fl ByteArray → (Nat → Prop) → Prop} (T : Tide L B0 FA) {w : World} {g gr : Nat} {C : Cf} {f : M.Fl ByteArray} {S : Nat → Prop} {pv ov tv av : Value} (hf : FA w g C f S) (hr : RefAt w gr C f pv ov tv av) (h1 : f.told.length ≤ 100000000) (h2 : f.after.length ≤ 100000000) :
    Calls Tryz.prog 14 #[.pointer (some ⟨g, 0, none⟩), .pointer (some ⟨gr, 0, none⟩)] w fun r w' => r = .returned (.bool true) ∧ Below w.heap.size w w' := by
  have HF := hideP hf
  have HR := hideP hr
  have HT := hideP T
  clear hf hr T
  go_enter Tryz.func14, Tryz.ntmps14
  go_wp2
  go_loopw [5] (fun ii wr => ∃ k : Nat, k ≤ 2 ∧ ii = .int .i64 k ∧ Hid (Below w.heap.size w wr)) (fun ii _ => 2 - (intOf ii).toNat)
  case atStart => exact ⟨0, Nat.zero_le _, rfl, Below.refl _ _⟩
  case round =>
    obtain ⟨k, hk, rfl, HB⟩ := hrel
    by_cases hlt : k < 2
    · have hlt' : (k : Int) < 2 := by omega
      generalize wr = wR at *
      have hbz := HB.out.size
      go_wp2_with fail
      refine (HT.out.panes (HT.out.below HF.out HB.out) h1).mono ?_
      rintro r w1 ⟨v1, rfl, p1, b1⟩
      have B1 := hideP (HB.out.trans (b1.mono hbz))
      have P1 := hideP p1
      have Z1 : wR.heap.size ≤ w1.heap.size := b1.size
      clear p1 b1
      go_wp2_with fail
      refine (HT.out.late (HT.out.below HF.out B1.out) h2).mono ?_
      rintro r w2 ⟨v2, rfl, p2, b2⟩
      have B2 := hideP (B1.out.trans (b2.mono B1.out.size))
      have P12 := hideP (P1.out.below b2)
      have P2 := hideP p2
      have Z2 : w1.heap.size ≤ w2.heap.size := b2.size
      clear p2 b2
      go_wp2_with fail
      refine (HT.out.panes (HT.out.below HF.out B2.out) h1).mono ?_
      rintro r w3 ⟨v3, rfl, p3, b3⟩
      have B3 := hideP (B2.out.trans (b3.mono B2.out.size))
      have P13 := hideP (P12.out.below b3)
      have P23 := hideP (P2.out.below b3)
      have P3 := hideP p3
      have Z3 : w2.heap.size ≤ w3.heap.size := b3.size
      clear p3 b3
      go_wp2_with fail
      refine (HT.out.late (HT.out.below HF.out B3.out) h2).mono ?_
      rintro r w4 ⟨v4, rfl, p4, b4⟩
      have B4 := hideP (B3.out.trans (b4.mono B3.out.size))
      have P14 := hideP (P13.out.below b4)
      have P24 := hideP (P23.out.below b4)
      have P34 := hideP (P3.out.below b4)
      have P4 := hideP p4
      have Z4 : w3.heap.size ≤ w4.heap.size := b4.size
      have K1 : Hid (∀ b, v1.ownBlock = some b → wR.heap.size ≤ b ∧ b < w1.heap.size) := fun b hb => ⟨(P1.out.lt b hb).1, (P1.out.lt b hb).2⟩
      have K2 : Hid (∀ b, v2.ownBlock = some b → w1.heap.size ≤ b ∧ b < w2.heap.size) := fun b hb => ⟨(P2.out.lt b hb).1, (P2.out.lt b hb).2⟩
      have K3 : Hid (∀ b, v3.ownBlock = some b → w2.heap.size ≤ b ∧ b < w3.heap.size) := fun b hb => ⟨(P3.out.lt b hb).1, (P3.out.lt b hb).2⟩
      have K4 : Hid (∀ b, v4.ownBlock = some b → w3.heap.size ≤ b ∧ b < w4.heap.size) := fun b hb => ⟨(P4.out.lt b hb).1, (P4.out.lt b hb).2⟩
      clear p4 b4 B1 B2 B3 P12 P13 P23 P1 P2 P3
      obtain ⟨a1, c1, rfl⟩ := P14.out.slice
      obtain ⟨a2, c2, rfl⟩ := P24.out.slice
      obtain ⟨a3, c3, rfl⟩ := P34.out.slice
      obtain ⟨a4, c4, rfl⟩ := P4.out.slice
      have S0 := hideP (Spoilt.start P34.out)
      go_wp2_with fail
      go_loopw [10] (fun ii wq => ∃ j : Nat, j ≤ f.told.length ∧ ii = .int .i64 j ∧ Hid (Spoilt w4 wq w2.heap.size 52 (.slice a3 f.told.length c3) f.told.length)) (fun ii _ => f.told.length - (intOf ii).toNat)
      case atStart => exact ⟨0, Nat.zero_le _, rfl, S0⟩
      case round =>
        obtain ⟨j, hj, rfl, HS⟩ := hrel
        by_cases hlt3 : j < f.told.length
        · obtain ⟨xb, xc, y0, y1, y2, y3, ev, -, hxb, d0, d1, d2, d3, hfr⟩ := HS.out.cells hlt3
          simp only [Value.slice.injEq] at ev
          obtain ⟨rfl, -, rfl⟩ := ev
          have j1 : (0 : Int) ≤ (j : Int) := by omega
          have j2 : (j : Int) < (f.told.length : Int) := by omega
          go_wp2_with fail
          go_roundw
          case rel => exact ⟨j + 1, by omega, by go_num, HS.out.step j _ _ _ _⟩
          case measure => simp [intOf]; omega
        · have TA := hideP HS.out.touch
          have A1 := hideP (TA.out.row P14.out (fun b hb e => by have h1 := K1.out b hb; have h2 := K3.out b e; omega))
          have A2 := hideP (TA.out.row P24.out (fun b hb e => by have h1 := K2.out b hb; have h2 := K3.out b e; omega))
          have A4 := hideP (TA.out.row P4.out (fun b hb e => by have h1 := K4.out b hb; have h2 := K3.out b e; omega))
          have BA := hideP (B4.out.trans (TA.out.below (B := w.heap.size) B4.out.size (fun b hb => by have := K3.out b hb; omega)))
          clear S0 P14 P24 P34 P4 TA HS
          generalize wr = wA at *
          have S1 := hideP (Spoilt.start A4.out)
          go_wp2_with fail
          go_loopw [11] (fun ii wq => ∃ j : Nat, j ≤ f.after.length ∧ ii = .int .i64 j ∧ Hid (Spoilt wA wq w3.heap.size 54 (.slice a4 f.after.length c4) f.after.length)) (fun ii _ => f.after.length - (intOf ii).toNat)
          case atStart => exact ⟨0, Nat.zero_le _, rfl, S1⟩
          case round =>
            obtain ⟨j, hj, rfl, HS⟩ := hrel
            by_cases hlt3 : j < f.after.length
            · obtain ⟨xb, xc, y0, y1, y2, y3, ev, -, hxb, d0, d1, d2, d3, hfr⟩ := HS.out.cells hlt3
              simp only [Value.slice.injEq] at ev
              obtain ⟨rfl, -, rfl⟩ := ev
              have j1 : (0 : Int) ≤ (j : Int) := by omega
              have j2 : (j : Int) < (f.after.length : Int) := by omega
              go_wp2_with fail
              go_roundw
              case rel => exact ⟨j + 1, by omega, by go_num, HS.out.step j _ _ _ _⟩
              case measure => simp [intOf]; omega
            · have TB := hideP HS.out.touch
              have D1 := hideP (TB.out.row A1.out (fun b hb e => by have h1 := K1.out b hb; have h2 := K4.out b e; omega))
              have D2 := hideP (TB.out.row A2.out (fun b hb e => by have h1 := K2.out b hb; have h2 := K4.out b e; omega))
              have BD := hideP (BA.out.trans (TB.out.below (B := w.heap.size) BA.out.size (fun b hb => by have := K4.out b hb; omega)))
              clear S1 A1 A2 A4 TB HS BA
              generalize wr = wB at *
              have RB := hideP (HR.out.below BD.out)
              have c9 := RB.out.cells.2.2.2.2.2.2.2.2.2.1
              have hgl := lt_of_block RB.out.obj
              have hbd := BD.out.size
              go_wp2_with fail
              refine (panes_same f.told _ _ _ D1.out.pns RB.out.told.pns h1).mono ?_
              rintro r wC ⟨rfl, bC⟩
              have BC := hideP (BD.out.trans (bC.mono hbd))
              have C1 := hideP (D1.out.below bC)
              have C2 := hideP (D2.out.below bC)
              have RC := hideP (RB.out.below bC)
              have c10 := RC.out.cells.2.2.2.2.2.2.2.2.2.2
              have ZC : wB.heap.size ≤ wC.heap.size := bC.size
              clear c9 bC D1 D2 RB BD
              go_wp2_with fail
              refine (events_same f.after _ _ _ C2.out.evs RC.out.after.evs h2).mono ?_
              rintro r wD ⟨rfl, bD⟩
              have BE := hideP (BC.out.trans (bD.mono BC.out.size))
              have E1 := hideP (C1.out.below bD)
              have E2 := hideP (C2.out.below bD)
              have RE := hideP (RC.out.below bD)
              have c7 := RE.out.cells.2.2.2.2.2.2.2.1
              have hgE := lt_of_block RE.out.obj
              have ZD : wC.heap.size ≤ wD.heap.size := bD.size
              clear c10 bD C1 C2 RC BC
              go_wp2_with fail
              go_cut [74] (fun d wx => d = .bool false ∧ Hid (Below wD.heap.size wD wx))
              case first =>
                have HFE := hideP (HT.out.below HF.out BE.out.drew)
                have hmk := hideP (fun (w' : World) (h : FA w' g C f S) => HT.out.mark h)
                clear HF HR HT K1 K2 K3 K4 BE E1 E2 RE
                go_region_held3 (fun w' => w'.cell? ⟨gr, 7, none⟩ = some (.int .i64 f.now)) (first | go_keep | exact keepAt bE (by simpa using hgE) (by assumption))
                  ((go_at_call 27; refine (hmk.out _ (by exact HFE.out)).mono ?_; rintro r wE ⟨rfl, bE⟩))
                all_goals
                  go_wp2_with fail
                  go_meet
                  exact ⟨by simp, (Below.refl _ _).drew.trans bE⟩
              case rest =>
                obtain ⟨rfl, BX⟩ := hcut
                have F1 := hideP (E1.out.below BX.out)
                have F2 := hideP (E2.out.below BX.out)
                have BF := hideP (BE.out.trans (BX.out.mono BE.out.size))
                have ZX := BX.out.size
                clear c7 BX E1 E2 RE BE
                have S2 := hideP (Spoilt.start F1.out)
                go_wp2_with fail
                go_loopw [14] (fun ii wq => ∃ j : Nat, j ≤ f.told.length ∧ ii = .int .i64 j ∧ Hid (Spoilt wc wq wR.heap.size 52 (.slice a1 f.told.length c1) f.told.length)) (fun ii _ => f.told.length - (intOf ii).toNat)
                case atStart => exact ⟨0, Nat.zero_le _, rfl, S2⟩
                case round =>
                  obtain ⟨j, hj, rfl, HS⟩ := hrel
                  by_cases hlt3 : j < f.told.length
                  · obtain ⟨xb, xc, y0, y1, y2, y3, ev, -, hxb, d0, d1, d2, d3, hfr⟩ := HS.out.cells hlt3
                    simp only [Value.slice.injEq] at ev
                    obtain ⟨rfl, -, rfl⟩ := ev
                    have j1 : (0 : Int) ≤ (j : Int) := by omega
                    have j2 : (j : Int) < (f.told.length : Int) := by omega
                    go_wp2_with fail
                    go_roundw
                    case rel => exact ⟨j + 1, by omega, by go_num, HS.out.step j _ _ _ _⟩
                    case measure => simp [intOf]; omega
                  · have TG := hideP HS.out.touch
                    have G2 := hideP (TG.out.row F2.out (fun b hb e => by have h1 := K2.out b hb; have h2 := K1.out b e; omega))
                    have BG := hideP (BF.out.trans (TG.out.below (B := w.heap.size) BF.out.size (fun b hb => by have := K1.out b hb; omega)))
                    clear S2 F1 F2 TG HS BF
                    generalize wr = wG at *
                    have S3 := hideP (Spoilt.start G2.out)
                    go_wp2_with fail
                    go_loopw [15] (fun ii wq => ∃ j : Nat, j ≤ f.after.length ∧ ii = .int .i64 j ∧ Hid (Spoilt wG wq w1.heap.size 54 (.slice a2 f.after.length c2) f.after.length)) (fun ii _ => f.after.length - (intOf ii).toNat)
                    case atStart => exact ⟨0, Nat.zero_le _, rfl, S3⟩
                    case round =>
                      obtain ⟨j, hj, rfl, HS⟩ := hrel
                      by_cases hlt3 : j < f.after.length
                      · obtain ⟨xb, xc, y0, y1, y2, y3, ev, -, hxb, d0, d1, d2, d3, hfr⟩ := HS.out.cells hlt3
                        simp only [Value.slice.injEq] at ev
                        obtain ⟨rfl, -, rfl⟩ := ev
                        have j1 : (0 : Int) ≤ (j : Int) := by omega
                        have j2 : (j : Int) < (f.after.length : Int) := by omega
                        go_wp2_with fail
                        go_roundw
                        case rel => exact ⟨j + 1, by omega, by go_num, HS.out.step j _ _ _ _⟩
                        case measure => simp [intOf]; omega
                      · have TH := hideP HS.out.touch
                        have BH := hideP (BG.out.trans (TH.out.below (B := w.heap.size) BG.out.size (fun b hb => by have := K2.out b hb; omega)))
                        clear S3 G2 TH HS BG
                        go_wp2
                        go_roundw
                        case rel => exact ⟨k + 1, by omega, by go_num, BH⟩
                        case measure => simp [intOf]; omega
    · go_wp2
      go_ret
      exact ⟨rfl, HB.out⟩
end Go.Proofs.YtnnoaolceeendaaGreatDoor
namespace Go.Proofs.YtnnoaolceeendaaGreatDoor
open Go.ChangeShapes Go.WideShapes Go.ChangeAt Go.RowKit

/-- The program's flow and the document's, side by side. -/
structure Both (FA : World → Nat → Cf → M.Fl ByteArray → (Nat → Prop) → Prop) (w : World) (g gr : Nat) (C : Cf) (q : M.Fl ByteArray) (S : Nat → Prop) (pv ov tv av : Value) : Prop where
  fa : FA w g C q S
  ref : RefAt w gr C q pv ov tv av
  apart : ∀ k, S k → ¬ feet gr pv ov tv av k

def BothTo (FA : World → Nat → Cf → M.Fl ByteArray → (Nat → Prop) → Prop) (U : Nat → Prop) (w w' : World) (g gr : Nat) (C : Cf) (q : M.Fl ByteArray) : Prop :=
  ∃ S pv ov tv av, Both FA w' g gr C q S pv ov tv av ∧ Touch U w w' ∧ ∀ k, S k ∨ feet gr pv ov tv av k → U k ∨ w.heap.size ≤ k

def both (S : Nat → Prop) (gr : Nat) (pv ov tv av : Value) : Nat → Prop := fun k => S k ∨ feet gr pv ov tv av k

section
variable {L : World → Prop} {B0 : Nat} {FA : World → Nat → Cf → M.Fl ByteArray → (Nat → Prop) → Prop} {w w1 w2 w3 : World} {g gr : Nat} {C : Cf} {q q1 : M.Fl ByteArray} {S S2 : Nat → Prop} {pv ov tv av : Value}

theorem Both.below (T : Tide L B0 FA) (h : Both FA w g gr C q S pv ov tv av) (hb : Below w.heap.size w w1) : Both FA w1 g gr C q S pv ov tv av := ⟨T.below h.fa hb, h.ref.below hb, h.apart⟩

theorem Both.to (h : Both FA w g gr C q S pv ov tv av) : BothTo FA (both S gr pv ov tv av) w w g gr C q := ⟨S, pv, ov, tv, av, h, Touch.refl _ _, fun _ hk => .inl hk⟩

/-- The program's step, then the document's. -/
theorem Both.mid (h : Both FA w g gr C q S pv ov tv av) (t : Touch S w w1) : RefAt w1 gr C q pv ov tv av := h.ref.agree fun k hk => t.block k (h.ref.feet_lt hk) (fun hs => h.apart k hs hk)

theorem Both.step (T : Tide L B0 FA) (h : Both FA w g gr C q S pv ov tv av) (hf : FA w1 g C q1 S2) (t : Touch S w w1) (hs : ∀ k, S2 k → S k ∨ w.heap.size ≤ k) (hr : RefTo (feet gr pv ov tv av) w1 w2 gr C q1) (hhi : ∀ k, feet gr pv ov tv av k → B0 ≤ k) : BothTo FA (both S gr pv ov tv av) w w2 g gr C q1 := by
  obtain ⟨pv', ov', tv', av', hr', t', hf'⟩ := hr
  have no : ∀ k, S2 k → ¬ feet gr pv ov tv av k := fun k h2 hk => by
    rcases hs k h2 with h' | h'
    · exact h.apart k h' hk
    · have := h.ref.feet_lt hk; omega
  refine ⟨S2, pv', ov', tv', av', ⟨T.apart hf t' no hhi, hr', fun k h2 hk => ?_⟩, (t.mono (fun k hk => .inl hk)).trans (t'.mono (fun k hk => .inr hk)) (fun k hk => .inl hk), fun k hk => ?_⟩
  · rcases hf' k hk with h' | h'
    · exact no k h2 h'
    · have := T.lt hf k h2; omega
  · rcases hk with hk | hk
    · exact (hs k hk).imp .inl id
    · rcases hf' k hk with h' | h'
      · exact .inl (.inr h')
      · exact .inr (Nat.le_trans t.size h')

theorem BothTo.from_below (hb : Below w.heap.size w w1) {U : Nat → Prop} (h : BothTo FA U w1 w2 g gr C q) : BothTo FA U w w2 g gr C q := by
  obtain ⟨S, pv, ov, tv, av, hB, t, hk⟩ := h
  exact ⟨S, pv, ov, tv, av, hB, (Touch.of_below (S := U) hb).trans t (fun _ h => .inl h), fun k hk' => (hk k hk').imp id (fun h => Nat.le_trans hb.size h)⟩

theorem BothTo.then_below (T : Tide L B0 FA) {U : Nat → Prop} (h : BothTo FA U w w1 g gr C q) (hb : Below w1.heap.size w1 w2) : BothTo FA U w w2 g gr C q := by
  obtain ⟨S, pv, ov, tv, av, hB, t, hk⟩ := h
  exact ⟨S, pv, ov, tv, av, hB.below T hb, t.trans (Touch.of_below (S := U) hb) (fun _ h => .inl h), hk⟩
end

/-- A step of a script. -/
def stepF (C : Cf) (kind : Int) (es : List (M.Ev ByteArray)) (ps : List Int) (n : Int) (f : M.Fl ByteArray) : M.Fl ByteArray :=
  if kind = 1 then (putR C es f).2.2 else if kind = 2 then (tickR C n f).2 else if kind = 3 then (endR C ps f).2.2 else f

theorem evs_apart {w : World} {v : Value} {es : List (M.Ev ByteArray)} (h : EvsAt w v es) {w' : World} {U : Nat → Prop} (t : Touch U w w') (hn : ∀ b, heldIn v = some b → ¬ U b) : EvsAt w' v es := h.touch t hn

set_option maxRecDepth 100000 in
set_option maxHeartbeats 4000000 in
theorem step_any {L : World → Prop} {B0 : Nat} {FA : World → Nat → Cf → M.Fl ByteArray → (Nat → Prop) → Prop} (T : Tide L B0 FA) {w : World} {g gr : Nat} {C : Cf} {q : M.Fl ByteArray} {S : Nat → Prop} {pv ov tv av : Value} (kind n sb : Int) (es : List (M.Ev ByteArray)) (ps : List Int) (v u : Value) (N : Nat)
    (hB : Both FA w g gr C q S pv ov tv av) (hhi : ∀ k, feet gr pv ov tv av k → B0 ≤ k) (hC : C.good = true) (he : EvsAt w v es) (hp : IntsAt w u ps) (hne : ∀ b, heldIn v = some b → ¬ both S gr pv ov tv av b) (hnp : ∀ b, heldIn u = some b → ¬ both S gr pv ov tv av b) (hts : timesOk es) (hpl : ps.length ≤ 50000000) (hroom : Room q (es.length + N)) (hok : FlOk C q) (hsil : silentOk sb q.parts) (hsb : sb ≤ 1000000000000) :
    Calls Tryz.prog 13 #[.pointer (some ⟨g, 0, none⟩), .pointer (some ⟨gr, 0, none⟩), .agg #[.int .i64 kind, v, u, .int .i64 n]] w fun r w' => r = .returned (.bool true) ∧ BothTo FA (both S gr pv ov tv av) w w' g gr C (stepF C kind es ps n q) := by
  have hroom' : Room q es.length := ⟨by have := hroom.opn; omega, by have := hroom.after; omega⟩
  have hlen : es.length ≤ 100000000 := by have := hroom.after; omega
  obtain ⟨ea, ec, rfl⟩ := he.form
  obtain ⟨pa, pc, rfl⟩ := hp.form
  have HT := hideP T
  have HB := hideP hB
  have HHI := hideP hhi
  have HE := hideP he
  have HP := hideP hp
  have HNE := hideP hne
  have HNP := hideP hnp
  have HTS := hideP hts
  have HRM := hideP hroom'
  have HOK := hideP hok
  have HSI := hideP hsil
  have HC := hideP (Cf.ok hC)
  clear T hB hhi he hp hne hnp hts hroom hroom' hok hsil
  by_cases k1 : kind = 1
  · subst k1
    go_enter Tryz.func13, Tryz.ntmps13
    go_wp2_with fail
    have hb0 : Below w.heap.size w (w.alloc (.cells #[.int .i64 1, .slice ea es.length ec, .slice pa ps.length pc, .int .i64 n] 42)) := (Below.refl _ _).alloc (Nat.le_refl _) _
    refine (theirs_any es _ _ (HE.out.below hb0) hlen).mono ?_
    rintro r w1 ⟨lv, rfl, hl, hb1⟩
    have B1 := hideP (hb0.trans (hb1.mono hb0.size))
    have L1 := hideP hl
    have bx := hideP (keepAt hb1 (by simp) (World.cell?_alloc_new w #[.int .i64 1, .slice ea es.length ec, .slice pa ps.length pc, .int .i64 n] 42 1))
    have z1 : w.heap.size + 1 ≤ w1.heap.size := by have := hb1.size; simpa using this
    have hl1 : Hid (∀ b, heldIn lv = some b → w.heap.size + 1 ≤ b ∧ b < w1.heap.size) := fun b hb => by have := hl.lt b (heldIn_own hb); simpa using this
    clear hl hb1 hb0
    obtain ⟨la, lc, rfl⟩ := L1.out.slice
    have hbU : Hid (∀ b, both S gr pv ov tv av b → b < w.heap.size) := fun b hb => hb.elim (HT.out.lt HB.out.fa b) HB.out.ref.feet_lt
    have BB1 := hideP (HB.out.below HT.out B1.out)
    have E1 := hideP (HE.out.below B1.out)
    go_wp2_with fail
    refine (HT.out.put es _ BB1.out.fa hC L1.out.evs (fun b hb hs => by have h1 := hl1.out b hb; have h2 := hbU.out b (.inl hs); omega) HTS.out HRM.out HOK.out).mono ?_
    rintro r w2 ⟨rfl, S2, f2, t2, s2⟩
    have R2 := hideP (BB1.out.mid t2)
    have E2 := hideP (E1.out.touch t2 (fun b hb hs => HNE.out b hb (.inl hs)))
    have bx2 := t2.cell (b := w.heap.size) (by omega) (fun hs => by have := hbU.out _ (.inl hs); omega) bx.out
    have F2 := hideP f2
    have T2 := hideP t2
    have S2' := hideP s2
    clear f2 t2 s2
    go_wp2_with fail
    refine (rPut_any gr C HC.out q es _ pv ov tv av _ R2.out E2.out (fun b hb hf => HNE.out b hb (.inr hf)) HTS.out HRM.out HOK.out).mono ?_
    rintro r w3 ⟨rfl, rt⟩
    have BT := hideP (BB1.out.step HT.out F2.out T2.out S2'.out rt HHI.out)
    have t13 : Touch (both S gr pv ov tv av) w1 w3 := by obtain ⟨_, _, _, _, _, _, t, _⟩ := BT.out; exact t
    have L3 := hideP (L1.out.evs.touch t13 (fun b hb hs => by have h1 := hl1.out b hb; have h2 := hbU.out b hs; omega))
    have E3 := hideP (E1.out.touch t13 HNE.out)
    have bx3 := t13.cell (b := w.heap.size) (by omega) (fun hs => by have := hbU.out _ hs; omega) bx.out
    clear rt t13 bx2
    go_wp2_with fail
    refine (events_same es _ _ _ L3.out E3.out hlen).mono ?_
    rintro r w4 ⟨rfl, b4⟩
    have BF := hideP ((BT.out.then_below HT.out b4).from_below B1.out)
    clear b4 bx3
    go_wp2_with (go_at_call 10; refine (num_any _ _).mono ?_; rintro r w9 ⟨rfl, rfl⟩)
    go_ret
    exact ⟨by simp, by unfold stepF; rw [if_pos rfl]; exact BF.out⟩
  · have t1 : (kind == 1) = false := by simpa using k1
    by_cases k2 : kind = 2
    · subst k2
      clear k1
      go_enter Tryz.func13, Tryz.ntmps13
      go_wp2_with fail
      have hb0 : Below w.heap.size w (w.alloc (.cells #[.int .i64 2, .slice ea es.length ec, .slice pa ps.length pc, .int .i64 n] 42)) := (Below.refl _ _).alloc (Nat.le_refl _) _
      have hbU : Hid (∀ b, both S gr pv ov tv av b → b < w.heap.size) := fun b hb => hb.elim (HT.out.lt HB.out.fa b) HB.out.ref.feet_lt
      have BB1 := hideP (HB.out.below HT.out hb0)
      have bx := hideP (World.cell?_alloc_new w #[.int .i64 2, .slice ea es.length ec, .slice pa ps.length pc, .int .i64 n] 42 3)
      refine (HT.out.tick n sb (es.length) BB1.out.fa hC HRM.out HOK.out HSI.out hsb).mono ?_
      rintro r w2 ⟨rfl, S2, f2, t2, s2⟩
      have R2 := hideP (BB1.out.mid t2)
      have bx2 := t2.cell (b := w.heap.size) (by simp) (fun hs => by have := hbU.out _ (.inl hs); omega) bx.out
      have F2 := hideP f2
      have T2 := hideP t2
      have S2' := hideP s2
      clear f2 t2 s2
      go_wp2_with fail
      refine (rTick_any gr C HC.out q n sb pv ov tv av _ es.length R2.out HRM.out HOK.out HSI.out hsb).mono ?_
      rintro r w3 ⟨rfl, rt⟩
      have BF := hideP ((BB1.out.step HT.out F2.out T2.out S2'.out rt HHI.out).from_below hb0)
      clear rt bx2
      go_wp2_with (go_at_call 10; refine (num_any _ _).mono ?_; rintro r w9 ⟨rfl, rfl⟩)
      go_ret
      exact ⟨by simp, by unfold stepF; rw [if_neg (by decide), if_pos rfl]; exact BF.out⟩
    · have t2 : (kind == 2) = false := by simpa using k2
      by_cases k3 : kind = 3
      · subst k3
        clear k1 k2
        go_enter Tryz.func13, Tryz.ntmps13
        go_wp2_with fail
        have hb0 : Below w.heap.size w (w.alloc (.cells #[.int .i64 3, .slice ea es.length ec, .slice pa ps.length pc, .int .i64 n] 42)) := (Below.refl _ _).alloc (Nat.le_refl _) _
        have hbU : Hid (∀ b, both S gr pv ov tv av b → b < w.heap.size) := fun b hb => hb.elim (HT.out.lt HB.out.fa b) HB.out.ref.feet_lt
        have BB1 := hideP (HB.out.below HT.out hb0)
        have P1 := hideP (HP.out.touch (Touch.of_below (S := fun _ => False) hb0) (fun _ _ h => h))
        have bx := hideP (World.cell?_alloc_new w #[.int .i64 3, .slice ea es.length ec, .slice pa ps.length pc, .int .i64 n] 42 2)
        refine (HT.out.fin ps _ (es.length) BB1.out.fa hC P1.out (fun b hb hs => HNP.out b hb (.inl hs)) hpl HRM.out HOK.out).mono ?_
        rintro r w2 ⟨rfl, S2, f2, t2, s2⟩
        have R2 := hideP (BB1.out.mid t2)
        have P2 := hideP (P1.out.touch t2 (fun b hb hs => HNP.out b hb (.inl hs)))
        have bx2 := t2.cell (b := w.heap.size) (by simp) (fun hs => by have := hbU.out _ (.inl hs); omega) bx.out
        have F2 := hideP f2
        have T2 := hideP t2
        have S2' := hideP s2
        clear f2 t2 s2
        go_wp2_with fail
        refine (rEnd_any gr C HC.out q ps _ pv ov tv av _ es.length R2.out P2.out (fun b hb hf => HNP.out b hb (.inr hf)) hpl HRM.out HOK.out).mono ?_
        rintro r w3 ⟨rfl, rt⟩
        have BF := hideP ((BB1.out.step HT.out F2.out T2.out S2'.out rt HHI.out).from_below hb0)
        clear rt bx2
        go_wp2_with (go_at_call 10; refine (num_any _ _).mono ?_; rintro r w9 ⟨rfl, rfl⟩)
        go_ret
        exact ⟨by simp, by unfold stepF; rw [if_neg (by decide), if_neg (by decide), if_pos rfl]; exact BF.out⟩
      · have t3 : (kind == 3) = false := by simpa using k3
        have BF := hideP (HB.out.to)
        have HQ : Hid (stepF C kind es ps n q = q) := by show _ = _; unfold stepF; rw [if_neg k1, if_neg k2, if_neg k3]
        clear k1 k2 k3
        go_enter Tryz.func13, Tryz.ntmps13
        go_wp2
        go_ret
        exact ⟨rfl, by rw [HQ.out]; exact BF.out.then_below HT.out ((Below.refl _ _).alloc (Nat.le_refl _) _)⟩
end Go.Proofs.YtnnoaolceeendaaGreatDoor
namespace Go.Proofs.YtnnoaolceeendaaGreatDoor
open Go.ChangeShapes Go.WideShapes Go.ChangeAt Go.RowKit

theorem putR_room (C : Cf) : ∀ (es : List (M.Ev ByteArray)) (f : M.Fl ByteArray) (N : Nat), Room f (es.length + N) → Room (putR C es f).2.2 N
  | [], f, N, h => ⟨by have := h.opn; simp at this; exact this, by have := h.after; simp at this; exact this⟩
  | e :: es, f, N, h => by
    have h' : Room f N := ⟨by have := h.opn; simp at this; omega, by have := h.after; simp at this; omega⟩
    rw [putR]
    split
    · exact h'
    · split
      · exact h'
      · refine putR_room C es _ N ?_
        have h2 : Room f ((es.length + N) + 1) := ⟨by have := h.opn; simp at this; omega, by have := h.after; simp at this; omega⟩
        exact h2.take C e

theorem putR_ok (C : Cf) : ∀ (es : List (M.Ev ByteArray)) (f : M.Fl ByteArray), timesOk es → FlOk C f → FlOk C (putR C es f).2.2
  | [], f, _, h => h
  | e :: es, f, ht, h => by
    rw [putR]
    split
    · exact h
    · split
      · exact h
      · exact putR_ok C es _ (fun x hx => ht x (by simp [hx])) (h.take e (ht e (by simp)).1 (ht e (by simp)).2.1)

theorem putR_silent (C : Cf) {sb : Int} (h0 : 0 ≤ sb) : ∀ (es : List (M.Ev ByteArray)) (f : M.Fl ByteArray), silentOk sb f.parts → silentOk sb (putR C es f).2.2.parts
  | [], f, h => h
  | e :: es, f, h => by
    rw [putR]
    split
    · exact h
    · split
      · exact h
      · refine putR_silent C h0 es _ ?_
        have hp : (M.takeF ltK C.size C.fold C.bound C.ws e f).parts = f.parts.modify e.part.toNat (M.takeP e.at_) := rfl
        rw [hp]
        intro p hp'
        obtain ⟨j, hj⟩ := List.mem_iff_getElem?.1 hp'
        rw [List.getElem?_modify] at hj
        cases hx : f.parts[j]? with
        | none => simp [hx] at hj
        | some x =>
          have hm := h x (List.mem_of_getElem? hx)
          split at hj
          · simp only [hx, Option.map_eq_map, Option.map_some, Option.some.injEq] at hj
            subst hj
            simp only [M.takeP]
            omega
          · simp only [hx, Option.map_eq_map, Option.map_some, Option.some.injEq] at hj
            subst hj
            exact hm

theorem endR_room (C : Cf) : ∀ (es : List Int) (f : M.Fl ByteArray) (N : Nat), Room f N → Room (endR C es f).2.2 N
  | [], f, N, h => h
  | e :: es, f, N, h => by
    rw [endR]
    split
    · exact h
    · split
      · exact h
      · exact endR_room C es _ N (h.fin C _)
theorem endR_ok (C : Cf) : ∀ (es : List Int) (f : M.Fl ByteArray), FlOk C f → FlOk C (endR C es f).2.2
  | [], f, h => h
  | e :: es, f, h => by
    rw [endR]
    split
    · exact h
    · split
      · exact h
      · exact endR_ok C es _ (h.fin _)
theorem end_silent {C : Cf} {sb : Int} {f : M.Fl ByteArray} (i : Nat) (h : silentOk sb f.parts) : silentOk sb (M.endF ltK C.bound i f).parts := by
  have hp : (M.endF ltK C.bound i f).parts = f.parts.modify i (fun p => { p with ended := true }) := rfl
  rw [hp]
  intro p hp'
  obtain ⟨j, hj⟩ := List.mem_iff_getElem?.1 hp'
  rw [List.getElem?_modify] at hj
  cases hx : f.parts[j]? with
  | none => simp [hx] at hj
  | some x =>
    have hm := h x (List.mem_of_getElem? hx)
    split at hj
    · simp only [hx, Option.map_eq_map, Option.map_some, Option.some.injEq] at hj
      subst hj
      exact hm
    · simp only [hx, Option.map_eq_map, Option.map_some, Option.some.injEq] at hj
      subst hj
      exact hm
theorem endR_silent (C : Cf) {sb : Int} : ∀ (es : List Int) (f : M.Fl ByteArray), silentOk sb f.parts → silentOk sb (endR C es f).2.2.parts
  | [], f, h => h
  | e :: es, f, h => by
    rw [endR]
    split
    · exact h
    · split
      · exact h
      · exact endR_silent C es _ (end_silent _ h)

theorem ticks_room (C : Cf) {N : Nat} : ∀ (n : Nat) (f : M.Fl ByteArray), Room f N → Room (ticksF C n f) N
  | 0, _, h => h
  | n + 1, f, h => (ticks_room C n f h).tick C
theorem ticks_ok (C : Cf) : ∀ (n : Nat) (f : M.Fl ByteArray), FlOk C f → FlOk C (ticksF C n f)
  | 0, _, h => h
  | n + 1, f, h => (ticks_ok C n f h).tick
theorem ticks_silent (C : Cf) {sb : Int} : ∀ (n : Nat) (f : M.Fl ByteArray), silentOk sb f.parts → silentOk (sb + n) (ticksF C n f).parts
  | 0, f, h => by
    show silentOk (sb + ((0 : Nat) : Int)) f.parts
    simpa using h
  | n + 1, f, h => by
    have := silent_tick (C := C) (ticks_silent C n f h)
    rw [show sb + ((n + 1 : Nat) : Int) = sb + n + 1 by omega]
    exact this

theorem silent_mono {a b : Int} {ps : List M.Pt} (h : silentOk a ps) (hab : a ≤ b) : silentOk b ps := fun p hp => by have := h p hp; omega

theorem stepF_room (C : Cf) (kind n : Int) (es : List (M.Ev ByteArray)) (ps : List Int) (f : M.Fl ByteArray) (N : Nat) (h : Room f (es.length + N)) : Room (stepF C kind es ps n f) N := by
  have h' : Room f N := ⟨by have := h.opn; omega, by have := h.after; omega⟩
  unfold stepF tickR
  split
  · exact putR_room C es f N h
  · split
    · split
      · exact h'
      · exact ticks_room C _ f h'
    · split
      · exact endR_room C ps f N h'
      · exact h'
theorem stepF_ok (C : Cf) (kind n : Int) (es : List (M.Ev ByteArray)) (ps : List Int) (f : M.Fl ByteArray) (ht : timesOk es) (h : FlOk C f) : FlOk C (stepF C kind es ps n f) := by
  unfold stepF tickR
  split
  · exact putR_ok C es f ht h
  · split
    · split
      · exact h
      · exact ticks_ok C _ f h
    · split
      · exact endR_ok C ps f h
      · exact h
theorem stepF_silent (C : Cf) (kind n : Int) (es : List (M.Ev ByteArray)) (ps : List Int) (f : M.Fl ByteArray) {sb : Int} (h0 : 0 ≤ sb) (h : silentOk sb f.parts) : silentOk (sb + 1000) (stepF C kind es ps n f).parts := by
  unfold stepF tickR
  split
  · exact silent_mono (putR_silent C h0 es f h) (by omega)
  · split
    · split
      · exact silent_mono h (by omega)
      · exact silent_mono (ticks_silent C n.toNat f h) (by omega)
    · split
      · exact silent_mono (endR_silent C ps f h) (by omega)
      · exact silent_mono h (by omega)

/-! ### Scripts -/
structure Sc where
  kind : Int
  es : List (M.Ev ByteArray)
  ps : List Int
  n : Int

structure ScAt (w : World) (v : Value) (sc : List Sc) : Prop where
  form : ∃ a cap, v = .slice a sc.length cap
  lies : ∀ k o, sc[k]? = some o → ∃ b off cap ev iv, v = .slice (some ⟨b, off, none⟩) sc.length cap ∧ b < w.heap.size ∧ w.cell? ⟨b, off + k * 4, none⟩ = some (.int .i64 o.kind) ∧ w.cell? ⟨b, off + k * 4 + 1, none⟩ = some ev ∧ w.cell? ⟨b, off + k * 4 + 2, none⟩ = some iv ∧ w.cell? ⟨b, off + k * 4 + 3, none⟩ = some (.int .i64 o.n) ∧
    EvsAt w ev o.es ∧ IntsAt w iv o.ps ∧ (∀ q, heldIn ev = some q → q < w.heap.size) ∧ (∀ q, heldIn iv = some q → q < w.heap.size)

def tot (sc : List Sc) : Nat := (sc.map fun o => o.es.length).sum

def scTo (C : Cf) (sc : List Sc) (k : Nat) (f : M.Fl ByteArray) : M.Fl ByteArray := (sc.take k).foldl (fun f o => stepF C o.kind o.es o.ps o.n f) f

theorem scTo_succ (C : Cf) {sc : List Sc} {k : Nat} {o : Sc} (h : sc[k]? = some o) (f : M.Fl ByteArray) : scTo C sc (k + 1) f = stepF C o.kind o.es o.ps o.n (scTo C sc k f) := by
  unfold scTo
  rw [take_snoc' h, List.foldl_append]
  rfl

theorem tot_drop {sc : List Sc} {k : Nat} {o : Sc} (h : sc[k]? = some o) : tot (sc.drop k) = o.es.length + tot (sc.drop (k + 1)) := by
  have := List.getElem?_eq_some_iff.1 h
  rw [List.drop_eq_getElem_cons this.1, this.2]
  simp [tot]

theorem ints_below {w w' : World} {v : Value} {es : List Int} (h : IntsAt w v es) (hb : Below w.heap.size w w') : IntsAt w' v es := h.touch (Touch.of_below (S := fun _ => False) hb) (fun _ _ h => h)

theorem ScAt.below {w w' : World} {v : Value} {sc : List Sc} (h : ScAt w v sc) (hb : Below w.heap.size w w') {k : Nat} {o : Sc} (ho : sc[k]? = some o) :
    ∃ b off cap ev iv, v = .slice (some ⟨b, off, none⟩) sc.length cap ∧ b < w.heap.size ∧ w'.cell? ⟨b, off + k * 4, none⟩ = some (.int .i64 o.kind) ∧ w'.cell? ⟨b, off + k * 4 + 1, none⟩ = some ev ∧ w'.cell? ⟨b, off + k * 4 + 2, none⟩ = some iv ∧ w'.cell? ⟨b, off + k * 4 + 3, none⟩ = some (.int .i64 o.n) ∧
      EvsAt w' ev o.es ∧ IntsAt w' iv o.ps ∧ (∀ q, heldIn ev = some q → q < w.heap.size) ∧ (∀ q, heldIn iv = some q → q < w.heap.size) := by
  obtain ⟨b, off, cap, ev, iv, h1, h2, h3, h4, h5, h6, h7, h8, h9, h10⟩ := h.lies k o ho
  exact ⟨b, off, cap, ev, iv, h1, h2, keepAt hb h2 h3, keepAt hb h2 h4, keepAt hb h2 h5, keepAt hb h2 h6, h7.below hb, ints_below h8 hb, h9, h10⟩

theorem newF_ok (C : Cf) {n : Nat} (h : n ≤ 8) : FlOk C (M.newF n) := ⟨fun p hp => by
  have := List.eq_of_mem_replicate hp
  subst this
  simp [M.newP], by simp [M.newF, h]⟩
theorem newF_silent (n : Nat) : silentOk 0 (M.newF n : M.Fl ByteArray).parts := fun p hp => by
  have := List.eq_of_mem_replicate hp
  subst this
  simp [M.newP]
theorem newF_room {n N : Nat} (h : N ≤ 4000000) : Room (M.newF n) N := ⟨by simp [M.newF]; omega, by simp [M.newF]; omega⟩
end Go.Proofs.YtnnoaolceeendaaGreatDoor
