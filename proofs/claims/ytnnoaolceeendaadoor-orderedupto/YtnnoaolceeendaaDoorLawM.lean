import Derived.Test.YtnnoaolceeendaaDoorLawK
import Derived.Deep.CutBlock
import Derived.Deep.QuietTactic
import Derived.BigQuiet
namespace Go.Proofs.YtnnoaolceeendaaDoor
open Go.ChangeShapes Go.WideShapes Go.ChangeAt Go.RowKit
set_option linter.unusedVariables false

set_option maxRecDepth 100000 in
set_option maxHeartbeats 4000000 in
theorem ordered_walk {L : World → Prop} {B0 : Nat} {FA : World → Nat → Cf → M.Fl ByteArray → (Nat → Prop) → Prop} (T : Tide L B0 FA) (C : Cf) (sc : List Sc) (v : Value) (w : World) (hL : L w) (hs : ScAt w v sc) (ht : ∀ o ∈ sc, timesOk o.es) (hp : ∀ o ∈ sc, o.ps.length ≤ 50000000) (hl : sc.length ≤ 2000000) (htot : tot sc ≤ 2000000) :
    Calls Tryd.prog 3 #[.agg #[.int .i64 C.size, .int .i64 C.slide, .int .i64 C.bound, .int .i64 C.idle, .int .i64 C.parts, .int .i64 C.fold], v] w fun r w' => r = .returned (.bool true) ∧ Below w.heap.size w w' := by
  obtain ⟨sa, sn, rfl⟩ := hs.form
  have HT := hideP T
  have HL := hideP hL
  have HS := hideP hs
  have HTM := hideP ht
  have HPL := hideP hp
  clear T hs ht hp hL
  obtain ⟨W0, HW0⟩ : ∃ W0, Hid (W0 = w.alloc (.cells #[.int .i64 C.size, .int .i64 C.slide, .int .i64 C.bound, .int .i64 C.idle, .int .i64 C.parts, .int .i64 C.fold] 23)) := ⟨_, rfl⟩
  cases hg : C.good
  · go_enter Tryd.func3, Tryd.ntmps3
    go_wp2_with fail
    refine (alive_any HT.out _ (HT.out.keep HL.out ((Below.refl _ _).alloc (Nat.le_refl _) _))).mono ?_
    rintro r w1 ⟨rfl, hb1⟩
    obtain ⟨k0, k1, k2, k3, k4, k5, hlt⟩ := keep6 hb1 (b := w.heap.size) (by simp) (World.cell?_alloc_new ..) (World.cell?_alloc_new ..) (World.cell?_alloc_new ..) (World.cell?_alloc_new ..) (World.cell?_alloc_new ..) (World.cell?_alloc_new ..)
    have B1 := hideP (((Below.refl _ _).alloc (Nat.le_refl _) _).trans (hb1.mono (by simp)) : Below w.heap.size w w1)
    clear hb1
    go_wp2_with fail
    refine (Good_any _ _ _ _ _ _ _).mono ?_
    rintro r w2 ⟨rfl, hb2⟩
    obtain ⟨k0', k1', k2', k3', k4', k5', hlt'⟩ := keep6 hb2 hlt k0 k1 k2 k3 k4 k5
    have B2 := hideP (B1.out.trans (hb2.mono (by omega)))
    clear hb2 k0 k1 k2 k3 k4 k5
    rw [show goodB C.size C.slide C.bound C.idle C.parts C.fold = false from hg]
    go_wp2_with fail
    refine (config_any _ _ _ _ _ _ _).mono ?_
    rintro r w3 ⟨rfl, hb3⟩
    have B3 := hideP (B2.out.trans (hb3.mono (by omega)))
    clear hb3 k0' k1' k2' k3' k4' k5'
    go_wp2_with fail
    refine (HT.out.new_no C _ (HT.out.keep HL.out B3.out) hg).mono ?_
    rintro r w4 ⟨rfl, hb4⟩
    have B4 := hideP (B3.out.trans (hb4.mono B3.out.size))
    clear hb4
    go_wp2_with (go_at_call 8; refine (num_any _ _).mono ?_; rintro r w9 ⟨rfl, rfl⟩)
    go_ret
    exact ⟨rfl, B4.out⟩
  · have hall := good_all hg
    obtain ⟨hs1, hs2, -, hsz, -, -, -, -, hp1, hp8, -, -⟩ := hall
    have hpn : C.parts.toNat ≤ 8 := by omega
    have HB0 : Hid (Below w.heap.size w W0) := by rw [HW0.out]; exact (Below.refl _ _).alloc (Nat.le_refl _) _
    have z0 : w.heap.size < W0.heap.size := by rw [HW0.out]; simp
    have HK : Hid (W0.cell? ⟨w.heap.size, 0, none⟩ = some (.int .i64 C.size)) := by rw [HW0.out]; exact World.cell?_alloc_new ..
    go_enter Tryd.func3, Tryd.ntmps3
    go_wp2_with fail
    rw [← HW0.out]
    have hk : W0.cell? ⟨w.heap.size, 0, none⟩ = some (.int .i64 C.size) ∧ W0.cell? ⟨w.heap.size, 1, none⟩ = some (.int .i64 C.slide) ∧ W0.cell? ⟨w.heap.size, 2, none⟩ = some (.int .i64 C.bound) ∧ W0.cell? ⟨w.heap.size, 3, none⟩ = some (.int .i64 C.idle) ∧ W0.cell? ⟨w.heap.size, 4, none⟩ = some (.int .i64 C.parts) ∧ W0.cell? ⟨w.heap.size, 5, none⟩ = some (.int .i64 C.fold) := by
      rw [HW0.out]; exact ⟨World.cell?_alloc_new .., World.cell?_alloc_new .., World.cell?_alloc_new .., World.cell?_alloc_new .., World.cell?_alloc_new .., World.cell?_alloc_new ..⟩
    refine (alive_any HT.out _ (HT.out.keep HL.out HB0.out)).mono ?_
    rintro r w1 ⟨rfl, hb1⟩
    obtain ⟨k0, k1, k2, k3, k4, k5, hlt⟩ := keep6 hb1 z0 hk.1 hk.2.1 hk.2.2.1 hk.2.2.2.1 hk.2.2.2.2.1 hk.2.2.2.2.2
    have B1 := hideP hb1
    clear hb1 hk
    go_wp2_with fail
    refine (Good_any _ _ _ _ _ _ _).mono ?_
    rintro r w2 ⟨rfl, hb2⟩
    obtain ⟨k0', k1', k2', k3', k4', k5', hlt'⟩ := keep6 hb2 hlt k0 k1 k2 k3 k4 k5
    have B2 := hideP (B1.out.trans (hb2.mono B1.out.size))
    clear hb2 k0 k1 k2 k3 k4 k5
    rw [show goodB C.size C.slide C.bound C.idle C.parts C.fold = true from hg]
    go_wp2_with fail
    refine (config_any _ _ _ _ _ _ _).mono ?_
    rintro r w3 ⟨rfl, hb3⟩
    have B3 := hideP (B2.out.trans (hb3.mono B2.out.size))
    clear hb3 k0' k1' k2' k3' k4' k5'
    go_wp2_with fail
    refine (HT.out.new_yes C _ (HT.out.keep HL.out (HB0.out.trans (B3.out.mono (by omega)))) hg).mono ?_
    rintro r w4 ⟨g, S, rfl, f4, hb4, n4⟩
    have HSO := hideP (⟨f4, fun k hk => Nat.le_trans B3.out.size (n4 k hk), B3.out.trans (hb4.mono B3.out.size), RowIs.nil _ _ _ _ _, fun b hb => by simp [Value.ownBlock] at hb⟩ : Solo FA W0 w4 g C (M.newF C.parts.toNat) S (.slice none 0 0) [])
    clear f4 hb4 n4 B1 B2 B3
    go_wp2_with (first
      | (go_at_call 8; refine (num_any _ _).mono ?_; rintro r w9 ⟨rfl, rfl⟩)
      | (go_at_call 9; refine (HT.out.look HSO.out.fa).mono ?_; rintro r w8 ⟨rfl, m8, rfl⟩))
    go_loopw [9, 10, 11] (fun mv wv ii wr => ∃ k q S, k ≤ sc.length ∧ ii = .int .i64 (k : Nat) ∧ mv = .int .i64 q.now ∧ Hid (Solo FA W0 wr g C q S wv q.told) ∧ Hid (OrdQ C sc k q)) (fun _ _ ii _ => sc.length - (intOf ii).toNat)
    case atStart => exact ⟨0, _, S, Nat.zero_le _, rfl, rfl, HSO.out.keep HT.out ⟨rfl, rfl, rfl, Nat.le_refl _, fun _ _ => rfl⟩, OrdQ.start C sc hpn htot⟩
    case round =>
      obtain ⟨k, q, S1, hk, rfl, rfl, HR, HQ⟩ := hrel
      clear HSO
      generalize wr = wA at *
      obtain ⟨wa, wp, rfl⟩ := HR.out.row.slice
      by_cases hlt : k < sc.length
      · obtain ⟨o, ho⟩ : ∃ o, sc[k]? = some o := ⟨_, List.getElem?_eq_getElem hlt⟩
        have hom : Hid (o ∈ sc) := List.mem_of_getElem? ho
        have hbA : Below w.heap.size w wA := HB0.out.trans (HR.out.below.mono (Nat.le_of_lt z0))
        obtain ⟨b, off, cp, ev, iv, hv, hb, m0, m1, m2, m3, he, hi, hev, hiv⟩ := HS.out.below hbA ho
        simp only [Value.slice.injEq] at hv
        obtain ⟨rfl, -, rfl⟩ := hv
        have HE := hideP he
        have HI := hideP hi
        have HEV := hideP hev
        have HIV := hideP hiv
        obtain ⟨q2, HQ2⟩ : ∃ q2, Hid (q2 = stepF C o.kind o.es o.ps o.n q) := ⟨_, rfl⟩
        have HQS := hideP (HQ.out.step ho (HTM.out o hom.out))
        have hrm : Room q o.es.length := by have h1 := HQ.out.1; have h2 := tot_drop ho; exact ⟨by have := h1.opn; omega, by have := h1.after; omega⟩
        have hel : o.es.length ≤ 100000000 := by have := hrm.after; omega
        have HRM := hideP hrm
        have hnb : Hid (∀ x, x < w.heap.size → ¬ S1 x) := fun x hx hs => by have := HR.out.new x hs; omega
        have i1 : (0 : Int) ≤ (k : Int) := by omega
        have i2 : (k : Int) < (sc.length : Int) := by omega
        have hzz : w.heap.size ≤ wA.heap.size := hbA.size
        clear he hi hev hiv hbA hrm ho
        go_upto_block 2 with fail
        go_cut [54, 64, 73] (fun _ _ _ wx => Hid (∃ S2, Solo FA W0 wx g C q2 S2 (.slice wa q.told.length wp) q.told))
        case first =>
          by_cases k1 : o.kind = 1
          · have t1 : (o.kind == 1) = true := by simp [k1]
            have HQ1 : Hid ((putR C o.es q).2.2 = q2) := by show _ = _; rw [HQ2.out]; unfold stepF; rw [if_pos k1]
            clear k1
            go_wp2_with fail
            refine (theirs_any o.es _ _ HE.out hel).mono ?_
            rintro r w1 ⟨lv, rfl, hl, hb1⟩
            have R1 := hideP (HR.out.keep HT.out hb1)
            have L1 := hideP hl
            clear hl hb1
            obtain ⟨la, lc, rfl⟩ := L1.out.slice
            go_wp2_with fail
            refine (HT.out.put o.es _ R1.out.fa hg L1.out.evs (fun b hb hs => by have h1 := (L1.out.lt b (heldIn_own hb)).1; have h2 := HT.out.lt HR.out.fa b hs; omega) (HTM.out o hom.out) HRM.out HQ.out.2.1).mono ?_
            rintro r w2 ⟨rfl, S2, f2, t2, s2⟩
            have R2 := hideP (R1.out.step HT.out f2 t2 s2)
            clear f2 t2 s2
            rw [HQ1.out] at R2
            go_wp2_with fail
            go_meet
            exact ⟨S2, R2.out⟩
          · have t1 : (o.kind == 1) = false := by simpa using k1
            by_cases k2 : o.kind = 2
            · have t2 : (o.kind == 2) = true := by simp [k2]
              have HQ1 : Hid ((tickR C o.n q).2 = q2) := by show _ = _; rw [HQ2.out]; unfold stepF; rw [if_neg k1, if_pos k2]
              clear k1 k2
              go_wp2_with fail
              refine (HT.out.tick o.n (1000 * k) o.es.length HR.out.fa hg HRM.out HQ.out.2.1 HQ.out.2.2.1 (by omega)).mono ?_
              rintro r w2 ⟨rfl, S2, f2, t2, s2⟩
              have R2 := hideP (HR.out.step HT.out f2 t2 s2)
              clear f2 t2 s2
              rw [HQ1.out] at R2
              go_wp2_with fail
              go_meet
              exact ⟨S2, R2.out⟩
            · have t2 : (o.kind == 2) = false := by simpa using k2
              by_cases k3 : o.kind = 3
              · have t3 : (o.kind == 3) = true := by simp [k3]
                have HQ1 : Hid ((endR C o.ps q).2.2 = q2) := by show _ = _; rw [HQ2.out]; unfold stepF; rw [if_neg k1, if_neg k2, if_pos k3]
                clear k1 k2 k3
                obtain ⟨pa, pc, rfl⟩ := HI.out.form
                go_wp2_with fail
                refine (HT.out.fin o.ps _ o.es.length HR.out.fa hg HI.out (fun q hq => hnb.out q (HIV.out q hq)) (HPL.out o hom.out) HRM.out HQ.out.2.1).mono ?_
                rintro r w2 ⟨rfl, S2, f2, t2, s2⟩
                have R2 := hideP (HR.out.step HT.out f2 t2 s2)
                clear f2 t2 s2
                rw [HQ1.out] at R2
                go_wp2_with fail
                go_meet
                exact ⟨S2, R2.out⟩
              · have t3 : (o.kind == 3) = false := by simpa using k3
                have HQ1 : Hid (q = q2) := by show _ = _; rw [HQ2.out]; unfold stepF; rw [if_neg k1, if_neg k2, if_neg k3]
                clear k1 k2 k3
                go_wp2_with fail
                go_meet
                exact ⟨S1, by rw [← HQ1.out]; exact HR.out⟩
        case rest =>
          obtain ⟨S2, so2⟩ := hcut
          have HR2 := hideP so2
          rw [← HQ2.out] at HQS
          clear so2 HR m0 m1 m2 m3 HE HI HEV HIV HRM hnb hel HQ2 HQ
          have TA := hideP (M.told_at HQS.out.1.2.2.2 HQS.out.2)
          have hn1 : decide (q2.now < q.now) = false := by have := HQS.out.2.1; simp; omega
          have hn2 : decide ((q2.told.length : Int) < (q.told.length : Int)) = false := by have := TA.out.1; simp; omega
          have hn4 : ¬ q2.now < q.now := by have := HQS.out.2.1; omega
          have hn5 : ¬ (q2.told.length : Int) < (q.told.length : Int) := by have := TA.out.1; omega
          have hn6 : ¬ q2.told.length < q.told.length := by have := TA.out.1; omega
          have hn7 : q.now ≤ q2.now := by omega
          have hn8 : q.told.length ≤ q2.told.length := by omega
          have hn3 : q2.told.length ≤ 100000000 := by have := HQS.out.1.1.opn; omega
          go_wp2_with fail
          refine (HT.out.panes HR2.out.fa hn3).mono ?_
          rintro r w1 ⟨lu, rfl, hl, hb1⟩
          have HR3 := hideP (HR2.out.keep HT.out hb1)
          have HLU := hideP (HR2.out.turn HT.out hb1 hl)
          obtain ⟨la, lc, rfl⟩ := hl.slice
          have hk1 : w1.cell? ⟨w.heap.size, 0, none⟩ = some (.int .i64 C.size) := keepAt HR3.out.below z0 HK.out
          clear hl hb1 HR2
          go_wp2_with fail
          refine (HT.out.look HR3.out.fa).mono ?_
          rintro r w8 ⟨rfl, m8, rfl⟩
          go_wp2_with fail
          go_loopw [13] (fun kk wr => ∃ (j m : Nat), j ≤ q2.told.length ∧ kk = .int .i64 (j : Nat) ∧ wr = w1.drewN m) (fun kk _ => q2.told.length - (intOf kk).toNat)
          case atStart => exact ⟨0, m8, Nat.zero_le _, rfl, rfl⟩
          case round =>
            obtain ⟨j, m, hj, rfl, rfl⟩ := hrel
            by_cases hjl : j < q2.told.length
            · obtain ⟨p, hp⟩ : ∃ p, q2.told[j]? = some p := ⟨_, List.getElem?_eq_getElem hjl⟩
              obtain ⟨lb, lc', hv, -, -, hc, -⟩ := HLU.out.row.at pnC_len hp
              simp only [Value.slice.injEq] at hv
              obtain ⟨rfl, -, rfl⟩ := hv
              have c0 : w1.cell? ⟨lb, j * 4, none⟩ = some (.int .i64 p.start) := hc 0 (by decide)
              have c1 : w1.cell? ⟨lb, j * 4 + 1, none⟩ = some (.int .i64 p.stop) := hc 1 (by decide)
              have c2 : w1.cell? ⟨lb, j * 4 + 2, none⟩ = some (.string p.key) := hc 2 (by decide)
              have c3 : w1.cell? ⟨lb, j * 4 + 3, none⟩ = some (.int .i64 p.n) := hc 3 (by decide)
              have TP := hideP (TA.out.2 j p hp)
              have HP := hideP hp
              have j1 : (0 : Int) ≤ (j : Int) := by omega
              have j2 : (j : Int) < (q2.told.length : Int) := by omega
              clear hc hp
              go_upto_region 26 with fail
              go_cut [115] (fun c wx => c = .bool false ∧ ∃ m', wx = w1.drewN m')
              case first =>
                by_cases hw : j < q.told.length
                · obtain ⟨wb, wp', hv, -, -, hc, -⟩ := HR3.out.row.at pnC_len (TP.out.2.2.1 hw)
                  simp only [Value.slice.injEq] at hv
                  obtain ⟨rfl, -, rfl⟩ := hv
                  have d0 : w1.cell? ⟨wb, j * 4, none⟩ = some (.int .i64 p.start) := hc 0 (by decide)
                  have d1 : w1.cell? ⟨wb, j * 4 + 1, none⟩ = some (.int .i64 p.stop) := hc 1 (by decide)
                  have d2 : w1.cell? ⟨wb, j * 4 + 2, none⟩ = some (.string p.key) := hc 2 (by decide)
                  have d3 : w1.cell? ⟨wb, j * 4 + 3, none⟩ = some (.int .i64 p.n) := hc 3 (by decide)
                  have j3 : (j : Int) < (q.told.length : Int) := by omega
                  clear hc hw
                  go_big_quiet (fail)
                  go_wp2
                  go_meet
                  exact ⟨by simp, _, World.drewN_drewN ..⟩
                · have j3 : decide ((j : Int) < (q.told.length : Int)) = false := by simp; omega
                  have j4 : decide (j < q.told.length) = false := by simp; omega
                  have j5 : ¬ (j : Int) < (q.told.length : Int) := by omega
                  go_big_quiet (fail)
                  go_wp2
                  go_meet
                  first | exact ⟨rfl, _, rfl⟩ | exact ⟨rfl, _, World.drewN_drewN ..⟩
              case rest =>
                obtain ⟨rfl, ma, rfl⟩ := hcut
                have e1 : decide (q2.now < p.stop) = false := by have := TP.out.1; simp; omega
                have e2 : wrap64 (p.stop - p.start) = C.size := by rw [show p.stop - p.start = C.size by have := TP.out.2.1; omega]; unfold wrap64; omega
                have e3 : IntKind.i64.wrap (p.stop - p.start) = C.size := by rw [IntKind.wrap_i64, show p.stop - p.start = C.size by have := TP.out.2.1; omega]; omega
                go_upto_region 28 with fail
                go_cut [154] (fun c wx => c = .bool false ∧ ∃ m', wx = w1.drewN m')
                case first =>
                  by_cases hw : j < q.told.length
                  · have j3 : decide ((q.told.length : Int) ≤ (j : Int)) = false := by simp; omega
                    have j4 : decide (q.told.length ≤ j) = false := by simp; omega
                    have j5 : ¬ (q.told.length : Int) ≤ (j : Int) := by omega
                    go_big_quiet ((go_at_call 9; exact HT.out.lookAt HR3.out.fa _ _))
                    go_wp2
                    go_meet
                    first | exact ⟨rfl, _, rfl⟩ | exact ⟨rfl, _, World.drewN_drewN ..⟩
                  · have j3 : (q.told.length : Int) ≤ (j : Int) := by omega
                    have j4 : decide (p.stop ≤ q.now) = false := by have := TP.out.2.2.2 (by omega); simp; omega
                    go_big_quiet ((go_at_call 9; exact HT.out.lookAt HR3.out.fa _ _))
                    go_wp2
                    go_meet
                    first | exact ⟨rfl, _, rfl⟩ | exact ⟨rfl, _, World.drewN_drewN ..⟩
                case rest =>
                  obtain ⟨rfl, mb, rfl⟩ := hcut
                  clear e1 e2 e3
                  go_wp2_with fail
                  go_loopw [14] (fun jj wr => ∃ (i m : Nat), i ≤ j ∧ jj = .int .i64 (i : Nat) ∧ wr = w1.drewN m) (fun jj _ => j - (intOf jj).toNat)
                  case atStart => exact ⟨0, mb, Nat.zero_le _, rfl, rfl⟩
                  case round =>
                    obtain ⟨i, mc, hi, rfl, rfl⟩ := hrel
                    by_cases hij : i < j
                    · obtain ⟨p0, hp0⟩ : ∃ p0, q2.told[i]? = some p0 := ⟨_, List.getElem?_eq_getElem (by omega)⟩
                      obtain ⟨lb', lc', hv, -, -, hc, -⟩ := HLU.out.row.at pnC_len hp0
                      simp only [Value.slice.injEq, Option.some.injEq, Addr.mk.injEq] at hv
                      obtain ⟨⟨rfl, -, -⟩, -, -⟩ := hv
                      have a0 : w1.cell? ⟨lb, i * 4, none⟩ = some (.int .i64 p0.start) := hc 0 (by decide)
                      have a2 : w1.cell? ⟨lb, i * 4 + 2, none⟩ = some (.string p0.key) := hc 2 (by decide)
                      have TT := hideP (M.told_two soK HQS.out.1.2.2.2 hij hp0 HP.out).1
                      have g1 : (0 : Int) ≤ (i : Int) := by omega
                      have g2 : (i : Int) < (q2.told.length : Int) := by omega
                      clear hc hp0
                      go_upto_region 33 with fail
                      go_cut [183] (fun c wx => c = .bool false ∧ ∃ m', wx = w1.drewN m')
                      case first =>
                        by_cases hs : p0.start = p.start
                        · have t1 : (p0.start == p.start) = true := by simp [hs]
                          have t2 : (p0.key.toList == p.key.toList) = false := by rw [str_beq]; simp; exact fun h => TT.out ⟨hs, h⟩
                          clear hs
                          go_big_quiet (fail)
                          go_wp2
                          go_meet
                          first | exact ⟨rfl, _, rfl⟩ | exact ⟨rfl, _, World.drewN_drewN ..⟩
                        · have t1 : (p0.start == p.start) = false := by simpa using hs
                          clear hs
                          go_big_quiet (fail)
                          go_wp2
                          go_meet
                          first | exact ⟨rfl, _, rfl⟩ | exact ⟨rfl, _, World.drewN_drewN ..⟩
                      case rest =>
                        obtain ⟨rfl, md, rfl⟩ := hcut
                        go_wp2_with fail
                        go_roundw
                        case rel => exact ⟨i + 1, md, by omega, by go_num, rfl⟩
                        case measure => simp [intOf]; omega
                    · go_upto_region 35 with fail
                      go_cut [199] (fun c wx => c = .bool false ∧ ∃ m', wx = w1.drewN m')
                      case first =>
                        by_cases hj0 : 0 < j
                        · obtain ⟨p1, hp1'⟩ : ∃ p1, q2.told[j - 1]? = some p1 := ⟨_, List.getElem?_eq_getElem (by omega)⟩
                          obtain ⟨lb', lc', hv, -, -, hc, -⟩ := HLU.out.row.at pnC_len hp1'
                          simp only [Value.slice.injEq, Option.some.injEq, Addr.mk.injEq] at hv
                          obtain ⟨⟨rfl, -, -⟩, -, -⟩ := hv
                          have TT := (M.told_two soK HQS.out.1.2.2.2 (by omega) hp1' HP.out).2
                          have a1 : w1.cell? ⟨lb, (j - 1) * 4 + 1, none⟩ = some (.int .i64 p1.stop) := hc 1 (by decide)
                          have t1 : decide (p.stop < p1.stop) = false := by simp; omega
                          have g0 : (0 : Int) < (j : Int) := by omega
                          have g1 : (0 : Int) ≤ (j : Int) - 1 := by omega
                          have g2 : (j : Int) - 1 < (q2.told.length : Int) := by omega
                          have g3 : ((j : Int) - 1).toNat = j - 1 := by omega
                          have g4 : wrap64 ((j : Int) - 1) = (j : Int) - 1 := by unfold wrap64; omega
                          clear hc hp1' TT
                          go_big_quiet (fail)
                          go_wp2
                          go_meet
                          first | exact ⟨rfl, _, rfl⟩ | exact ⟨rfl, _, World.drewN_drewN ..⟩
                        · have g0 : decide ((0 : Int) < (j : Int)) = false := by simp; omega
                          have g1 : ¬ (0 : Int) < (j : Int) := by omega
                          have g2 : decide (0 < j) = false := by simp; omega
                          go_big_quiet (fail)
                          go_wp2
                          go_meet
                          first | exact ⟨rfl, _, rfl⟩ | exact ⟨rfl, _, World.drewN_drewN ..⟩
                      case rest =>
                        obtain ⟨rfl, md, rfl⟩ := hcut
                        go_wp2_with fail
                        go_roundw
                        case rel => exact ⟨j + 1, md, by omega, by go_num, rfl⟩
                        case measure => simp [intOf]; omega
            · have HR5 := hideP (HLU.out.keep HT.out (w1 := w1.drewN m) ⟨rfl, rfl, rfl, Nat.le_refl _, fun _ _ => rfl⟩)
              go_wp2_with fail
              refine (HT.out.look HR5.out.fa).mono ?_
              rintro r w8 ⟨rfl, m9, rfl⟩
              have HR6 := hideP (HR5.out.keep HT.out (w1 := w1.drewN (m + m9)) ⟨rfl, rfl, rfl, Nat.le_refl _, fun _ _ => rfl⟩)
              go_wp2_with fail
              go_roundw
              case rel => exact ⟨k + 1, q2, S2, by omega, by go_num, rfl, HR6, HQS.out.1⟩
              case measure => simp [intOf]; omega
      · have HBF := hideP (HB0.out.trans (HR.out.below.mono (Nat.le_of_lt z0)))
        go_wp2_with fail
        go_ret
        exact ⟨rfl, HBF.out⟩
end Go.Proofs.YtnnoaolceeendaaDoor
namespace Go.Proofs.YtnnoaolceeendaaDoor
open Go.ChangeShapes Go.WideShapes Go.ChangeAt Go.RowKit
set_option linter.unusedVariables false
open Go.ChangeShapes Go.WideShapes Go.ChangeAt Go.RowKit Go.Joins

set_option maxRecDepth 100000 in
theorem ordered_contract {L : World → Prop} {B0 : Nat} {FA : World → Nat → Cf → M.Fl ByteArray → (Nat → Prop) → Prop} (T : Tide L B0 FA) (H : Type) (enc : TypeId × Value → H) (W : World) (base : Nat) (args : Array Value) (ds gs : List (DataW H)) (before : List MemPlace) (hL : L W)
    (hval : ∀ (j : Nat) t v, Tryd.f3.params[j]? = some t → args[j]? = some v → Value.okWide Tryd.prog W .any base t v)
    (hW : DataW.Whole enc Tryd.prog Tryd.f3.params.toList Rows.orderedSpec.vars false W args.toList ds gs before) (hk : Rows.uptoSmall H (ds ++ gs) = true) :
    Calls Tryd.prog 3 args W fun e W' => ∃ v, e = .returned v ∧ Rows.orderedSpec.post enc Tryd.prog Tryd.f3 false true false false W args v W' := by
  have hW' := hW
  obtain ⟨p, q, hA0, hV, rfl, hfz, hnd⟩ := hW
  have hA : DataW.TrodAll enc Tryd.prog W 0 (fun _ => true) true Tryd.f3.params.toList args.toList ds p := hA0
  rw [Tryd.params3] at hA hval
  obtain ⟨v0, vs0, d0, ds0, p0, q0, hargs, rfl, rfl, h0, r0⟩ := trodAll_cons hA
  obtain ⟨v1, vs1, d1, ds1, p1, q1, rfl, rfl, rfl, h1, r1⟩ := trodAll_cons r0
  obtain ⟨rfl, rfl, rfl⟩ := trodAll_nil r1
  obtain rfl : args = #[v0, v1] := by cases args; simp_all
  obtain ⟨rfl, rfl⟩ := trodVars_none hV
  obtain ⟨C, rfl⟩ := open_config (hval 0 23 v0 rfl rfl) h0
  have hb : Rows.uptoBulkAll ([d0, d1] ++ []) ≤ 1048576 := of_decide_eq_true hk
  simp only [List.append_nil, Rows.uptoBulkAll] at hb
  obtain ⟨a1, l1, c1, rfl⟩ := okWide_slice Tryd.underlying24 (hval 1 24 v1 rfl rfl)
  obtain ⟨f1, hf1⟩ := h1
  obtain ⟨v, sc, hv, s1, s2, s3, s4, s5⟩ := open_script hf1 (by simp only; omega)
  obtain rfl : Value.slice a1 l1 c1 = v := by simpa [Value.cells] using hv
  clear hA0 hval
  simp only [List.append_nil] at hW'
  have hlt : ∀ x ∈ p0 ++ p1, x.block < W.heap.size := fun x hx => by simpa using hW'.lt x (by simpa using hx)
  refine (ordered_walk T C sc _ W hL s1 s2 (fun o ho => by have := s3 o ho; simp only at this; omega) (by simp only at s4; omega) (by simp only at s5; omega)).mono fun r W' ⟨he, hbw⟩ => ?_
  subst he
  refine ⟨_, rfl, _, _, _, [], p0 ++ p1, [], hW', ?_, ?_, rfl, hbw.frame _, fun h => by cases h⟩
  · exact trodAll_cons_mk (shut_bool Tryd.underlying4 _) trodAll_mk0
  · have t0 := Below.trod Tryd.laidOut (by kernel_rfl) (of_decide_eq_true (by kernel_rfl)) h0 hbw (fun x hx => hlt x (by simp [hx]))
    have t1 := Below.trod Tryd.laidOut (by kernel_rfl) (of_decide_eq_true (by kernel_rfl)) ⟨f1, hf1⟩ hbw (fun x hx => hlt x (by simp [hx]))
    have t := trodAll_cons_mk t0 (trodAll_cons_mk t1 trodAll_mk0)
    rw [List.append_nil] at t
    exact t
end Go.Proofs.YtnnoaolceeendaaDoor
