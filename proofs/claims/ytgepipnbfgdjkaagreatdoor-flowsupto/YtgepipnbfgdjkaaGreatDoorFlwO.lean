import Derived.Test.YtgepipnbfgdjkaaGreatDoorFlwN
namespace Go.Proofs.YtgepipnbfgdjkaaGreatDoor
open Go.ChangeShapes Go.WideShapes Go.ChangeAt Go.RowKit

theorem FlowIs.setMark {w : World} {g : Nat} {s : FS} (h : FlowIs w g s) (t : Int) : Way w (w.setCell ⟨g, 7, none⟩ (.int .i64 t)) g s { s with m := t } := by
  have hg : ∀ K k, K ≠ .flow → kd g s K k → (w.setCell ⟨g, 7, none⟩ (.int .i64 t)).heap[k]? = w.heap[k]? := fun K k hF hk => Below.heap_setCell w ⟨g, 7, none⟩ _ k (fun e => hF (kd_inj h hk (show kd g s .flow k from e)))
  exact ⟨⟨h.ob.setMark t, h.parts.agree (fun k hk => hg .part k (by simp) hk), h.tls.agree (hg .tls _ (by simp) rfl), fun x b hb => (h.tal x b hb).agree (hg (.tal x) b (by simp) hb), h.tin, fun a b ha hb => (h.slot a b ha hb).agree (fun k hk => hg (.slot a b) k (by simp) ⟨ha, hb, hk⟩), h.sin,
    h.told.agree (fun k hk => hg .pane k (by simp) hk), h.late.agree (fun k hk => hg .event k (by simp) hk)⟩, Touch.set (S := foot g s) (.inl rfl) _, fun k hk => .inl hk⟩

theorem tell_same {size : Int} {f : M.Fl ByteArray} (h : M.Inv ltK size f) : M.tellF ltK f.now f = f := by
  unfold M.tellF
  rw [List.filter_eq_self.2 (fun p hp => by simpa using (h.opn.stop p hp).1), List.filter_eq_nil_iff.2 (fun p hp => by have := (h.opn.stop p hp).1; simp; omega)]
  simp [M.sortP]

def onward (m t : Int) : Int := if m < t then t else m

theorem Way.only {w w' : World} {g : Nat} {s0 s : FS} (h : Way w w' g s0 s) : Way w w' g s0 { s with GM := onlyGM s.TM s.GM } := ⟨h.fl.only, h.touch, h.foot⟩
theorem Way.trans {w0 w1 w2 : World} {g : Nat} {s0 s1 s2 : FS} (h : Way w0 w1 g s0 s1) (k : Way w1 w2 g s1 s2) : Way w0 w2 g s0 s2 := h.next k.fl k.touch (fun _ hk => hk) k.foot

set_option maxRecDepth 100000 in
set_option maxHeartbeats 4000000 in
theorem turn_any (g bx : Nat) (s : FS) (f : M.Fl ByteArray) (t : Int) (w : World) (h : FlowIs w g s) (hR : FRel s f) (hB : TurnB s f) (hbx : w.heap[bx]? = some (.cells #[.pointer (some ⟨g, 0, none⟩)] 25 (0, 0))) (ht : Wh.IsT t) :
    Calls Tryz.prog 48 #[.pointer (some ⟨g, 7, none⟩), .int .i64 t, .func (.func 50) #[] #[.pointer (some ⟨bx, 0, none⟩)]] w fun r w' => r = .returned (.tuple #[]) ∧ ∃ s', Way w w' g s s' ∧ FRel s' (M.tellF ltK (onward s.m t) f) ∧ s'.C = s.C := by
  have c7 := h.ob.at7
  have f7 := h.ob.frozen 7
  have H := hideP h
  have HR := hideP hR
  have HB := hideP hB
  have HX := hideP hbx
  clear h hR hB hbx
  by_cases hmt : s.m < t
  · have hT : Turn s t (Wh.levF (Wh.rk s.m) (Wh.rk t)) (Wh.dig (Wh.levF (Wh.rk s.m) (Wh.rk t)) (Wh.rk s.m)) (Wh.dig (Wh.levF (Wh.rk s.m) (Wh.rk t)) (Wh.rk t) + 1 - Wh.dig (Wh.levF (Wh.rk s.m) (Wh.rk t)) (Wh.rk s.m)) := ⟨ht, hmt, rfl, rfl, rfl⟩
    have LV := level_any s.m t w HR.out.mT ht (by omega)
    obtain ⟨top, htop⟩ : ∃ x, x = Wh.levF (Wh.rk s.m) (Wh.rk t) := ⟨_, rfl⟩
    rw [← htop] at hT LV
    obtain ⟨d1, hd1⟩ : ∃ x, x = Wh.dig top (Wh.rk s.m) := ⟨_, rfl⟩
    obtain ⟨d2, hd2⟩ : ∃ x, x = Wh.dig top (Wh.rk t) := ⟨_, rfl⟩
    rw [← hd1] at hT
    have hmore := hT.more HR.out
    rw [← hd2] at hT hmore
    obtain ⟨-, -, ht16, hd12, hd216, -, -⟩ := hmore
    have DG1 : Hid (∀ w, Calls Tryz.prog 63 #[.int .i64 s.m, .int .i64 (top : Int)] w fun r w' => r = .returned (.int .i64 (d1 : Int)) ∧ w' = w) := fun w => by rw [hd1]; exact digit_any s.m top w HR.out.mT ht16
    have DG2 : Hid (∀ w, Calls Tryz.prog 63 #[.int .i64 t, .int .i64 (top : Int)] w fun r w' => r = .returned (.int .i64 (d2 : Int)) ∧ w' = w) := fun w => by rw [hd2]; exact digit_any t top w ht ht16
    have HLV := hideP LV
    have HT := hideP hT
    clear LV hT htop hd1 hd2
    have SM := hideP (H.out.setMark t)
    have L0 := hideP (Low.start s t)
    go_enter Tryz.func48, Tryz.ntmps48
    go_wp2_with (first
      | (go_at_call 62; refine HLV.out.mono ?_; rintro r w9 ⟨rfl, rfl⟩)
      | (go_at_call_of 63 (Value.int IntKind.i64 s.m); refine (DG1.out _).mono ?_; rintro r w9 ⟨rfl, rfl⟩)
      | (go_at_call_of 63 (Value.int IntKind.i64 t); refine (DG2.out _).mono ?_; rintro r w9 ⟨rfl, rfl⟩))
    go_loopw [36] (fun ii wr => ∃ lv : Nat, lv ≤ top ∧ ii = .int .i64 lv ∧ ∃ s1, Hid (Way w9 wr g s s1 ∧ Low s s1 t lv)) (fun ii _ => top - (intOf ii).toNat)
    case atStart => exact ⟨0, Nat.zero_le _, rfl, _, SM.out, L0.out⟩
    case round =>
      obtain ⟨lv, hlv, rfl, s1, HW⟩ := hrel
      by_cases hlt : lv < top
      · have DR := hideP (drain_any g bx s1 lv 0 16 (9 + lv * 16) 16 wr HW.out.1.fl (HW.out.1.box H.out HX.out) (by omega) (by omega) (by omega) rfl (HT.out.drainLow HR.out HB.out HW.out.2 hlt))
        have i1 : (0 : Int) ≤ (lv : Int) := by omega
        have i2 : (lv : Int) < 16 := by omega
        have i3 : (lv : Int) < (top : Int) := by omega
        go_wp2_with (go_at_call 64; refine DR.out.mono ?_; rintro r w2 ⟨rfl, s2, hw2, hd2⟩)
        have HW2 := hideP (show Way w9 w2 g s s2 ∧ Low s s2 t (lv + 1) from ⟨HW.out.1.trans hw2, HW.out.2.step HR.out HT.out hlt hd2⟩)
        clear hw2 hd2 DR
        go_roundw
        case rel => exact ⟨lv + 1, by omega, by go_num, _, HW2⟩
        case measure => simp [intOf]; omega
      · have el : lv = top := by omega
        subst el
        have DR := hideP (drain_any g bx s1 lv d1 (d2 + 1 - d1) (9 + lv * 16 + d1) (16 - d1) wr HW.out.1.fl (HW.out.1.box H.out HX.out) (by omega) (by omega) (by omega) rfl (HT.out.drainTop HR.out HB.out HW.out.2))
        have i1 : (0 : Int) ≤ (lv : Int) := by omega
        have i2 : (lv : Int) < 16 := by omega
        have i4 : (0 : Int) ≤ (d1 : Int) := by omega
        have i5 : (d1 : Int) ≤ (d2 : Int) + 1 := by omega
        have i6 : (d2 : Int) + 1 ≤ 16 := by omega
        go_wp2_with (go_at_call 64; refine DR.out.mono ?_; rintro r w2 ⟨rfl, s2, hw2, hd2⟩)
        go_end0
        refine ⟨rfl, _, (HW.out.1.trans hw2).only, ?_, ?_⟩
        · rw [onward, if_pos hmt]
          exact HT.out.done HR.out HB.out HW.out.2 hd2
        · exact hd2.C.trans HW.out.2.C
  · go_enter Tryz.func48, Tryz.ntmps48
    go_wp2
    refine bodyPost_ret (v := .tuple #[]) (by simp [results, Tryz.results48, go_sem]) rfl ?_
    refine ⟨rfl, s, Way.start H.out, ?_, rfl⟩
    rw [onward, if_neg (by omega), HR.out.now, tell_same HR.out.inv]
    exact HR.out
end Go.Proofs.YtgepipnbfgdjkaaGreatDoor
