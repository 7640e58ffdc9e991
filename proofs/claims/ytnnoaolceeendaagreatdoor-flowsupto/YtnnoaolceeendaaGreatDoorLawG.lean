import Derived.Test.YtnnoaolceeendaaGreatDoorLawF
namespace Go.Proofs.YtnnoaolceeendaaGreatDoor
open Go.ChangeShapes Go.WideShapes Go.ChangeAt Go.RowKit

/-- What the loop of Flows holds: the two flows side by side, and another one that is not to be seen. -/
structure Trio (FA : World → Nat → Cf → M.Fl ByteArray → (Nat → Prop) → Prop) (w0 w : World) (g gr go : Nat) (C : Cf) (q qo : M.Fl ByteArray) (S So : Nat → Prop) (pv ov tv av : Value) : Prop where
  two : Both FA w g gr C q S pv ov tv av
  other : FA w go C qo So
  apart : ∀ k, So k → ¬ both S gr pv ov tv av k
  new : ∀ k, both S gr pv ov tv av k ∨ So k → w0.heap.size ≤ k
  below : Below w0.heap.size w0 w

def TrioTo (FA : World → Nat → Cf → M.Fl ByteArray → (Nat → Prop) → Prop) (w0 w : World) (g gr go : Nat) (C : Cf) (q qo : M.Fl ByteArray) : Prop := ∃ S So pv ov tv av, Trio FA w0 w g gr go C q qo S So pv ov tv av

section
variable {L : World → Prop} {B0 : Nat} {FA : World → Nat → Cf → M.Fl ByteArray → (Nat → Prop) → Prop} {w0 w w1 : World} {g gr go : Nat} {C : Cf} {q q1 qo qo1 : M.Fl ByteArray} {S So So1 : Nat → Prop} {pv ov tv av : Value}

theorem Trio.keep (T : Tide L B0 FA) (h : Trio FA w0 w g gr go C q qo S So pv ov tv av) (hb : Below w.heap.size w w1) : Trio FA w0 w1 g gr go C q qo S So pv ov tv av :=
  ⟨h.two.below T hb, T.below h.other hb, h.apart, h.new, h.below.trans (hb.mono h.below.size)⟩

/-- What comes to the other one. -/
theorem Trio.aside (T : Tide L B0 FA) (h : Trio FA w0 w g gr go C q qo S So pv ov tv av) (hf : FA w1 go C qo1 So1) (t : Touch So w w1) (hs : ∀ k, So1 k → So k ∨ w.heap.size ≤ k) : Trio FA w0 w1 g gr go C q qo1 S So1 pv ov tv av := by
  have hlt : ∀ k, both S gr pv ov tv av k → k < w.heap.size := fun k hk => hk.elim (T.lt h.two.fa k) h.two.ref.feet_lt
  refine ⟨⟨T.apart h.two.fa t (fun k hk ho => h.apart k ho (.inl hk)) (T.low h.other), h.two.ref.agree (fun k hk => t.block k (h.two.ref.feet_lt hk) (fun ho => h.apart k ho (.inr hk))), h.two.apart⟩, hf, fun k hk hb => ?_, fun k hk => ?_, h.below.trans (t.below h.below.size (fun k hk => h.new k (.inr hk)))⟩
  · rcases hs k hk with h' | h'
    · exact h.apart k h' hb
    · have := hlt k hb; omega
  · rcases hk with hk | hk
    · exact h.new k (.inl hk)
    · rcases hs k hk with h' | h'
      · exact h.new k (.inr h')
      · exact Nat.le_trans h.below.size h'

/-- What comes to both. -/
theorem Trio.step (T : Tide L B0 FA) (hB : B0 ≤ w0.heap.size) (h : Trio FA w0 w g gr go C q qo S So pv ov tv av) (hb : BothTo FA (both S gr pv ov tv av) w w1 g gr C q1) : TrioTo FA w0 w1 g gr go C q1 qo := by
  obtain ⟨S', pv', ov', tv', av', hB', t, hk⟩ := hb
  refine ⟨S', So, pv', ov', tv', av', hB', T.apart h.other t h.apart (fun k hk' => Nat.le_trans hB (h.new k (.inl hk'))), fun k ho hb => ?_, fun k hk' => ?_, h.below.trans (t.below h.below.size (fun k hk' => h.new k (.inl hk')))⟩
  · rcases hk k hb with h' | h'
    · exact h.apart k ho h'
    · have := T.lt h.other k ho; omega
  · rcases hk' with hk' | hk'
    · rcases hk k hk' with h' | h'
      · exact h.new k (.inl h')
      · exact Nat.le_trans h.below.size h'
    · exact h.new k (.inr hk')
end

set_option maxRecDepth 100000 in
set_option maxHeartbeats 4000000 in
theorem flows_walk {L : World → Prop} {B0 : Nat} {FA : World → Nat → Cf → M.Fl ByteArray → (Nat → Prop) → Prop} (T : Tide L B0 FA) (C : Cf) (sc : List Sc) (v : Value) (w : World) (hL : L w) (hs : ScAt w v sc) (ht : ∀ o ∈ sc, timesOk o.es) (hp : ∀ o ∈ sc, o.ps.length ≤ 50000000) (hl : sc.length ≤ 2000000) (htot : tot sc ≤ 2000000) :
    Calls Tryz.prog 3 #[.agg #[.int .i64 C.size, .int .i64 C.slide, .int .i64 C.bound, .int .i64 C.idle, .int .i64 C.parts, .int .i64 C.fold], v] w fun r w' => r = .returned (.bool true) ∧ Below w.heap.size w w' := by
  obtain ⟨sa, sn, rfl⟩ := hs.form
  have HT := hideP T
  have HL := hideP hL
  have hB0 := T.base hL
  have HS := hideP hs
  have HTM := hideP ht
  have HPL := hideP hp
  clear T hs ht hp hL
  cases hg : C.good
  · go_enter Tryz.func3, Tryz.ntmps3
    go_wp2_with fail
    refine (config_any _ _ _ _ _ _ _).mono ?_
    rintro r w1 ⟨rfl, hb1⟩
    obtain ⟨k0, k1, k2, k3, k4, k5, hlt⟩ := keep6 hb1 (b := w.heap.size) (by simp) (World.cell?_alloc_new ..) (World.cell?_alloc_new ..) (World.cell?_alloc_new ..) (World.cell?_alloc_new ..) (World.cell?_alloc_new ..) (World.cell?_alloc_new ..)
    have B1 := hideP (((Below.refl _ _).alloc (Nat.le_refl _) _).trans (hb1.mono (by simp)) : Below w.heap.size w w1)
    clear hb1
    go_wp2_with fail
    refine (HT.out.new_no C _ (HT.out.keep HL.out B1.out) hg).mono ?_
    rintro r w2 ⟨rfl, hb2⟩
    obtain ⟨k0', k1', k2', k3', k4', k5', hlt'⟩ := keep6 hb2 hlt k0 k1 k2 k3 k4 k5
    have B2 := hideP (B1.out.trans (hb2.mono (by omega)))
    clear hb2 k0 k1 k2 k3 k4 k5
    go_wp2_with fail
    refine (rNew_no C _ hg).mono ?_
    rintro r w3 ⟨rfl, hb3⟩
    have B3 := hideP (B2.out.trans (hb3.mono (by omega)))
    clear hb3 k0' k1' k2' k3' k4' k5'
    go_wp2_with (go_at_call 10; refine (num_any _ _).mono ?_; rintro r w9 ⟨rfl, rfl⟩)
    go_ret
    exact ⟨rfl, B3.out⟩
  · have hall := good_all hg
    obtain ⟨-, -, -, -, -, -, -, -, hp1, hp8, -, -⟩ := hall
    go_enter Tryz.func3, Tryz.ntmps3
    go_wp2_with fail
    refine (config_any _ _ _ _ _ _ _).mono ?_
    rintro r w1 ⟨rfl, hb1⟩
    obtain ⟨k0, k1, k2, k3, k4, k5, hlt⟩ := keep6 hb1 (b := w.heap.size) (by simp) (World.cell?_alloc_new ..) (World.cell?_alloc_new ..) (World.cell?_alloc_new ..) (World.cell?_alloc_new ..) (World.cell?_alloc_new ..) (World.cell?_alloc_new ..)
    have B1 := hideP (((Below.refl _ _).alloc (Nat.le_refl _) _).trans (hb1.mono (by simp)) : Below w.heap.size w w1)
    clear hb1
    go_wp2_with fail
    refine (HT.out.new_yes C _ (HT.out.keep HL.out B1.out) hg).mono ?_
    rintro r w2 ⟨g, S, rfl, f2, hb2, n2⟩
    obtain ⟨k0', k1', k2', k3', k4', k5', hlt'⟩ := keep6 hb2 hlt k0 k1 k2 k3 k4 k5
    have B2 := hideP (B1.out.trans (hb2.mono (by omega)))
    have F2 := hideP f2
    have N2 := hideP n2
    have z2 : w1.heap.size ≤ w2.heap.size := hb2.size
    clear hb2 k0 k1 k2 k3 k4 k5 f2 n2
    go_wp2_with fail
    refine (rNew_yes C _ hg).mono ?_
    rintro r w3 ⟨gr, pv, rfl, r3, hb3, hgr, hpv⟩
    obtain ⟨k0, k1, k2, k3, k4, k5, hlt3⟩ := keep6 hb3 hlt' k0' k1' k2' k3' k4' k5'
    have B3 := hideP (B2.out.trans (hb3.mono (by omega)))
    have R3 := hideP r3
    have F3 := hideP (HT.out.below F2.out hb3)
    have hft : Hid (∀ k, feet gr pv (.slice none 0 0) (.slice none 0 0) (.slice none 0 0) k → w2.heap.size ≤ k) := fun k hk => by
      rcases hk with rfl | hk | hk | hk | hk
      · exact hgr
      · exact hpv k hk
      · simp [Value.ownBlock] at hk
      · simp [Value.ownBlock] at hk
      · simp [Value.ownBlock] at hk
    have z3 : w2.heap.size ≤ w3.heap.size := hb3.size
    clear hb3 k0' k1' k2' k3' k4' k5' r3 hgr hpv
    go_wp2_with (go_at_call 10; refine (num_any _ _).mono ?_; rintro r w9 ⟨rfl, rfl⟩)
    refine (config_any _ _ _ _ _ _ _).mono ?_
    rintro r w4 ⟨rfl, hb4⟩
    have B4 := hideP (B3.out.trans (hb4.mono (by omega)))
    have F4 := hideP (HT.out.below F3.out hb4)
    have R4 := hideP (R3.out.below hb4)
    have z4 : w9.heap.size ≤ w4.heap.size := hb4.size
    clear hb4 k0 k1 k2 k3 k4 k5
    go_wp2_with fail
    refine (HT.out.new_yes C _ (HT.out.keep HL.out B4.out) hg).mono ?_
    rintro r w5 ⟨go, So, rfl, f5, hb5, n5⟩
    have TR : Hid (TrioTo FA w w5 g gr go C (M.newF C.parts.toNat) (M.newF C.parts.toNat)) := by
      refine ⟨S, So, pv, .slice none 0 0, .slice none 0 0, .slice none 0 0, ⟨HT.out.below F4.out hb5, R4.out.below hb5, fun k hk hf => ?_⟩, f5, fun k ho hb => ?_, fun k hk => ?_, B4.out.trans (hb5.mono (by omega))⟩
      · have h1 := HT.out.lt F2.out k hk; have h2 := hft.out k hf; omega
      · have h1 := n5 k ho
        rcases hb with hb | hb
        · have h2 := HT.out.lt F4.out k hb; omega
        · have h2 := R4.out.feet_lt hb; omega
      · rcases hk with (hk | hk) | hk
        · have := N2.out k hk; omega
        · have := hft.out k hk; omega
        · have := n5 k hk; omega
    clear f5 hb5 n5 F2 F3 F4 R3 R4 B1 B2 B3 B4 N2 hft
    have hpn : C.parts.toNat ≤ 8 := by omega
    go_wp2
    go_loopw [11] (fun ii wr => ∃ k qo, k ≤ sc.length ∧ ii = .int .i64 (k : Nat) ∧ Hid (TrioTo FA w wr g gr go C (scTo C sc k (M.newF C.parts.toNat)) qo) ∧ Hid (Room (scTo C sc k (M.newF C.parts.toNat)) (tot (sc.drop k)) ∧ FlOk C (scTo C sc k (M.newF C.parts.toNat)) ∧ silentOk (1000 * k) (scTo C sc k (M.newF C.parts.toNat)).parts) ∧ Hid (Room qo (tot (sc.drop k)) ∧ FlOk C qo)) (fun ii _ => sc.length - (intOf ii).toNat)
    case atStart => exact ⟨0, _, Nat.zero_le _, rfl, TR, ⟨newF_room (by simpa using by omega), newF_ok C hpn, newF_silent _⟩, ⟨newF_room (by simpa using by omega), newF_ok C hpn⟩⟩
    case round =>
      obtain ⟨k, qo, hk, rfl, HTR, HQ, HO⟩ := hrel
      by_cases hlt : k < sc.length
      · obtain ⟨o, ho⟩ : ∃ o, sc[k]? = some o := ⟨_, List.getElem?_eq_getElem hlt⟩
        obtain ⟨S1, So1, pv1, ov1, tv1, av1, tr⟩ := HTR.out
        have HR := hideP tr
        have hom : o ∈ sc := List.mem_of_getElem? ho
        obtain ⟨b, off, cp, ev, iv, hv, hb, m0, m1, m2, m3, he, hi, hev, hiv⟩ := HS.out.below tr.below ho
        simp only [Value.slice.injEq] at hv
        obtain ⟨rfl, -, rfl⟩ := hv
        have HE := hideP he
        have HI := hideP hi
        have HEV := hideP hev
        have HIV := hideP hiv
        have hzz : w.heap.size ≤ wr.heap.size := tr.below.size
        have HD := hideP (tot_drop ho)
        have HSC := hideP (scTo_succ C ho (M.newF C.parts.toNat))
        have i1 : (0 : Int) ≤ (k : Int) := by omega
        have i2 : (k : Int) < (sc.length : Int) := by omega
        have hel : o.es.length ≤ 100000000 := by
          have h1 := HO.out.1.after
          have h2 := HD.out
          omega
        clear tr he hi hev hiv ho HTR TR
        generalize wr = wA at *
        go_wp2_with fail
        refine (theirs_any o.es _ _ HE.out hel).mono ?_
        rintro r w1 ⟨lv, rfl, hl, hb1⟩
        have L1 := hideP hl
        have R1 := hideP (HR.out.keep HT.out hb1)
        have hbA : b < wA.heap.size := by omega
        have y0 := keepAt hb1 hbA m0
        have y1 := keepAt hb1 hbA m1
        have y2 := keepAt hb1 hbA m2
        have y3 := keepAt hb1 hbA m3
        have E1 := hideP (HE.out.below hb1)
        have I1 := hideP (ints_below HI.out hb1)
        have z1 : wA.heap.size ≤ w1.heap.size := hb1.size
        clear m0 m1 m2 m3 hl hb1 HE HI
        obtain ⟨la, lc, rfl⟩ := L1.out.slice
        go_wp2_with fail
        refine (HT.out.put o.es _ R1.out.other hg L1.out.evs (fun b hb hs => by have h1 := (L1.out.lt b (heldIn_own hb)).1; have h2 := HT.out.lt HR.out.other b hs; omega) (HTM.out o hom) ⟨by have h1 := HO.out.1.opn; have h2 := HD.out; omega, by have h1 := HO.out.1.after; have h2 := HD.out; omega⟩ HO.out.2).mono ?_
        rintro r w2 ⟨rfl, So2, f2, t2, s2⟩
        have R2 := hideP (R1.out.aside HT.out f2 t2 s2)
        have hnb : ∀ x, x < w.heap.size → ¬ So1 x := fun x hx hs => by have := R1.out.new x (.inr hs); omega
        have x0 := t2.cell (b := b) (by omega) (hnb b hb) y0
        have x1 := t2.cell (b := b) (by omega) (hnb b hb) y1
        have x2 := t2.cell (b := b) (by omega) (hnb b hb) y2
        have x3 := t2.cell (b := b) (by omega) (hnb b hb) y3
        have E2 := hideP (E1.out.touch t2 (fun q hq => hnb q (HEV.out q hq)))
        have I2 := hideP (I1.out.touch t2 (fun q hq => hnb q (HIV.out q hq)))
        clear f2 t2 s2 hnb y0 y1 y2 y3 E1 I1 R1 L1 HR
        go_wp2_with fail
        have hnB : ∀ x, x < w.heap.size → ¬ both S1 gr pv1 ov1 tv1 av1 x := fun x hx hs => by have := R2.out.new x (.inl hs); omega
        refine (step_any HT.out o.kind o.n (1000 * k) o.es o.ps _ _ (tot (sc.drop (k + 1))) R2.out.two (fun x hx => Nat.le_trans hB0 (R2.out.new x (.inl (.inr hx)))) hg E2.out I2.out (fun q hq => hnB q (HEV.out q hq)) (fun q hq => hnB q (HIV.out q hq)) (HTM.out o hom) (HPL.out o hom) (by rw [← HD.out]; exact HQ.out.1) HQ.out.2.1 HQ.out.2.2 (by omega)).mono ?_
        rintro r w3 ⟨rfl, bt⟩
        have R3 : Hid (TrioTo FA w w3 g gr go C (scTo C sc (k + 1) (M.newF C.parts.toNat)) (putR C o.es qo).2.2) := by rw [HSC.out]; exact R2.out.step HT.out hB0 bt
        have HQ3 : Hid (Room (scTo C sc (k + 1) (M.newF C.parts.toNat)) (tot (sc.drop (k + 1))) ∧ FlOk C (scTo C sc (k + 1) (M.newF C.parts.toNat)) ∧ silentOk (1000 * (k + 1 : Nat)) (scTo C sc (k + 1) (M.newF C.parts.toNat)).parts) := by
          rw [HSC.out]
          refine ⟨stepF_room C _ _ _ _ _ _ (by rw [← HD.out]; exact HQ.out.1), stepF_ok C _ _ _ _ _ (HTM.out o hom) HQ.out.2.1, ?_⟩
          have := stepF_silent C o.kind o.n o.es o.ps _ (by omega) HQ.out.2.2
          rw [show (1000 * ((k + 1 : Nat) : Int)) = 1000 * (k : Int) + 1000 by omega]
          exact this
        have HO3 : Hid (Room (putR C o.es qo).2.2 (tot (sc.drop (k + 1))) ∧ FlOk C (putR C o.es qo).2.2) :=
          ⟨putR_room C o.es qo _ (by rw [← HD.out]; exact HO.out.1), putR_ok C o.es qo (HTM.out o hom) HO.out.2⟩
        clear bt x0 x1 x2 x3 E2 I2 R2 HQ HO hnB HSC
        obtain ⟨S3, So3, pv3, ov3, tv3, av3, tr3⟩ := R3.out
        have HR3 := hideP tr3
        clear tr3 R3
        go_wp2_with fail
        refine (told_any HT.out HR3.out.two.fa HR3.out.two.ref (by have := HQ3.out.1.opn; omega) (by have := HQ3.out.1.after; omega)).mono ?_
        rintro r w4 ⟨rfl, hb4⟩
        have R4 : Hid (TrioTo FA w w4 g gr go C (scTo C sc (k + 1) (M.newF C.parts.toNat)) (putR C o.es qo).2.2) := ⟨_, _, _, _, _, _, HR3.out.keep HT.out hb4⟩
        clear hb4 HR3
        go_wp2_with fail
        go_roundw
        case rel => exact ⟨k + 1, _, by omega, by go_num, R4, HQ3, HO3⟩
        case measure => simp [intOf]; omega
      · obtain ⟨S3, So3, pv3, ov3, tv3, av3, tr3⟩ := HTR.out
        have HR3 := hideP tr3
        clear tr3 HTR TR
        go_wp2_with fail
        refine (told_any HT.out HR3.out.two.fa HR3.out.two.ref (by have := HQ.out.1.opn; omega) (by have := HQ.out.1.after; omega)).mono ?_
        rintro r w4 ⟨rfl, hb4⟩
        have B4 := hideP (HR3.out.below.trans (hb4.mono HR3.out.below.size))
        clear hb4 HR3
        go_wp2_with fail
        go_ret
        exact ⟨rfl, B4.out⟩
end Go.Proofs.YtnnoaolceeendaaGreatDoor
