import Derived.Test.YtnnoaolceeendaaGreatDoorFlwR
import Derived.Test.YtnnoaolceeendaaGreatDoorGoodT
namespace Go.Proofs.YtnnoaolceeendaaGreatDoor
open Go.ChangeShapes Go.WideShapes Go.ChangeAt Go.RowKit

/-- A part stored anew. -/
theorem FlowIs.partSet {w : World} {g : Nat} {s : FS} (h : FlowIs w g s) {i j : Nat} {x y : IP} {u : Value} {pb cap : Nat} (hv : s.pv = .slice (some ⟨pb, 0, none⟩) s.ps.length cap) (hx : s.ps[i]? = some x) (hj : j < 3) (he : ipC y = (ipC x).set j u) :
    Way w (w.setCell ⟨pb, i * 3 + j, none⟩ u) g s { s with ps := s.ps.set i y } := by
  have hr := h.parts
  rw [hv] at hr
  have hr2 := (RowIs.set hr ipC_len hx hj he).1
  have hpb : kd g s .part pb := by show s.pv.ownBlock = some pb; rw [hv]; rfl
  have hg : ∀ K k, K ≠ .part → kd g s K k → (w.setCell ⟨pb, i * 3 + j, none⟩ u).heap[k]? = w.heap[k]? := fun K k hF hk => Below.heap_setCell w ⟨pb, i * 3 + j, none⟩ _ k (fun e => hF (kd_inj h hk (by subst e; exact hpb)))
  refine ⟨⟨(h.ob.agree (hg .flow g (by simp) rfl)).like (fun _ _ => rfl), ?_, h.tls.agree (hg .tls _ (by simp) rfl), fun x b hb => (h.tal x b hb).agree (hg (.tal x) b (by simp) hb), h.tin, fun a b ha hb => (h.slot a b ha hb).agree (fun k hk => hg (.slot a b) k (by simp) ⟨ha, hb, hk⟩), h.sin,
    h.told.agree (fun k hk => hg .pane k (by simp) hk), h.late.agree (fun k hk => hg .event k (by simp) hk)⟩, Touch.set (S := foot g s) (foot_kd.2 ⟨.part, hpb⟩) _, fun k hk => .inl hk⟩
  show RowIs ipC _ 0 112 3 s.pv (s.ps.set i y)
  rw [hv]
  exact hr2

/-- A part of the document's flow, stored anew. -/
theorem FRel.part {s : FS} {f : M.Fl ByteArray} (h : FRel s f) {i : Nat} {x y : IP} {p : M.Pt} {fn : M.Pt → M.Pt} (hx : s.ps[i]? = some x) (hp : f.parts[i]? = some p) (hr : PtRel s.C.idle y (fn p)) : FRel { s with ps := s.ps.set i y } { f with parts := f.parts.modify i fn } := by
  refine ⟨h.now, h.told, h.after, ⟨h.inv.opn, h.inv.told, h.inv.sorted, h.inv.hi, h.inv.lo⟩, h.opn, h.tm, h.time, h.slotT, h.wheel, ?_, fun j q r hq hr2 => ?_⟩
  · show (s.ps.set i y).length = (f.parts.modify i fn).length
    rw [List.length_set, List.length_modify]
    exact h.plen
  · have hq2 : (s.ps.set i y)[j]? = some q := hq
    have hr3 : (f.parts.modify i fn)[j]? = some r := hr2
    rw [List.getElem?_set] at hq2
    rw [List.getElem?_modify] at hr3
    show PtRel s.C.idle q r
    by_cases hij : i = j
    · subst hij
      have hl := (List.getElem?_eq_some_iff.1 hx).1
      rw [if_pos rfl, if_pos hl] at hq2
      rw [hp] at hr3
      simp only [Option.some.injEq] at hq2
      simp at hr3
      rw [← hq2, ← hr3]
      exact hr
    · rw [if_neg hij] at hq2
      have hr4 : f.parts[j]? = some r := by
        cases hfp : f.parts[j]? with
        | none => rw [hfp] at hr3; simp at hr3
        | some z => rw [hfp] at hr3; simp [hij] at hr3; rw [hr3]
      exact h.parts j q r hq2 hr4

def refI (s : FS) (n : Int) : Int := if n < 0 ∨ (s.ps.length : Int) ≤ n then 2 else if (s.ps.getD n.toNat ⟨0, 0, false⟩).ended = true then 3 else 0

theorem within_at (n lo hi : Int) (w : World) : Calls Tryz.prog 49 #[.int .i64 n, .int .i64 lo, .int .i64 hi] w fun e w' => e = .returned (.bool (winB n lo hi)) ∧ w' = w := within_any n lo hi w

set_option maxRecDepth 100000 in
set_option maxHeartbeats 2000000 in
theorem refusal_any (g : Nat) (s : FS) (n : Int) (w : World) (h : FlowIs w g s) (hn : s.ps.length ≤ 8) :
    Calls Tryz.prog 50 #[.pointer (some ⟨g, 0, none⟩), .int .i64 n] w fun r w' => r = .returned (.int .i64 (refI s n)) ∧ w' = w := by
  have c6 := h.ob.at6
  obtain ⟨pa, pc, hsl⟩ := h.parts.slice
  rw [hsl] at c6
  have HP := hideP h.parts
  rw [hsl] at HP
  clear h hsl
  by_cases h1 : n < 0 ∨ (s.ps.length : Int) ≤ n
  · have HV : Hid (refI s n = 2) := by show _ = _; rw [refI, if_pos h1]
    have HW : Hid (winB n 0 ((s.ps.length : Int) - 1) = false) := by show _ = _; unfold winB; simp; omega
    rw [HV.out]
    clear h1
    go_enter Tryz.func50, Tryz.ntmps50
    go_wp2_with (go_at_call 49; refine (within_at _ _ _ _).mono ?_; rintro r w9 ⟨rfl, rfl⟩; rw [HW.out])
    go_ret
    exact ⟨rfl, rfl⟩
  · obtain ⟨i, rfl⟩ := Int.eq_ofNat_of_zero_le (show 0 ≤ n by omega)
    have hil : i < s.ps.length := by omega
    obtain ⟨q, hq⟩ : ∃ e, s.ps[i]? = some e := ⟨_, List.getElem?_eq_getElem hil⟩
    obtain ⟨pb, cap, ev, -, hpb, hc, -⟩ := HP.out.at ipC_len hq
    simp only [Value.slice.injEq] at ev
    obtain ⟨rfl, -, rfl⟩ := ev
    have m2 : w.cell? ⟨pb, i * 3 + 2, none⟩ = some (.bool q.ended) := (hc 2 (by omega)).trans rfl
    have HW : Hid (winB (i : Int) 0 ((s.ps.length : Int) - 1) = true) := win_yes (by omega) (by omega)
    have HV : Hid (refI s (i : Int) = if q.ended = true then 3 else 0) := by
      show _ = _
      rw [refI, if_neg h1, Int.toNat_natCast, List.getD_eq_getElem?_getD, hq]
      rfl
    have i1 : (0 : Int) ≤ (i : Int) := by omega
    have i2 : (i : Int) < (s.ps.length : Int) := by omega
    rw [HV.out]
    clear hq hc h1
    obtain ⟨be, hbe⟩ : ∃ b, q.ended = b := ⟨_, rfl⟩
    rw [hbe] at m2 ⊢
    cases be
    all_goals
      go_enter Tryz.func50, Tryz.ntmps50
      go_wp2_with (go_at_call 49; refine (within_at _ _ _ _).mono ?_; rintro r w9 ⟨rfl, rfl⟩; rw [HW.out])
      go_ret
      exact ⟨rfl, rfl⟩

theorem lengthen_any (b o : Nat) (k : Int) (w : World) (hk : w.cell? ⟨b, o, none⟩ = some (.int .i64 k)) (hf : w.frozen? ⟨b, o, none⟩ = false) (k0 : 0 ≤ k) (k1 : k ≤ 100) :
    Calls Tryz.prog 76 #[.pointer (some ⟨b, o, none⟩)] w fun r w' => r = .returned (.tuple #[]) ∧ w' = w.setCell ⟨b, o, none⟩ (.int .i64 (min (k + 1) 100)) := by
  go_enter Tryz.func76, Tryz.ntmps76
  go_wp2
  go_end0
  exact ⟨rfl, rfl⟩
theorem break_any (b o : Nat) (k : Int) (w : World) (hk : w.cell? ⟨b, o, none⟩ = some (.int .i64 k)) (hf : w.frozen? ⟨b, o, none⟩ = false) :
    Calls Tryz.prog 52 #[.pointer (some ⟨b, o, none⟩)] w fun r w' => r = .returned (.tuple #[]) ∧ w' = w.setCell ⟨b, o, none⟩ (.int .i64 0) := by
  go_enter Tryz.func52, Tryz.ntmps52
  go_wp2
  go_end0
  exact ⟨rfl, rfl⟩
theorem sclone_any (k : ByteArray) (w : World) (hk : k.size ≤ 1048576) : Calls Tryz.prog 51 #[.string k] w fun r w' => r = .returned (.string k) ∧ Below w.heap.size w w' := by
  go_enter Tryz.func51, Tryz.ntmps51
  go_wp2_with (go_at_call 68; refine (shelf_clone k _ (by omega)).mono ?_; rintro r w9 ⟨rfl, hb⟩)
  go_ret
  exact ⟨rfl, hb⟩
end Go.Proofs.YtnnoaolceeendaaGreatDoor
