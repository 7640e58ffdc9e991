import Derived.Test.YtnnoaolceeendaaGreatDoorFlwP
namespace Go.Proofs.YtnnoaolceeendaaGreatDoor
open Go.ChangeShapes Go.WideShapes Go.ChangeAt Go.RowKit

theorem tal_keys {w : World} {b : Nat} {G : ByteArray → Option Int} (h : TalAt w b G) : ∃ ks, KeysAre G ks := by
  obtain ⟨D, h1, h2⟩ := h
  exact ⟨_, keys_are h1 h2 (List.Perm.refl _)⟩

theorem FlowIs.turnB {w : World} {g : Nat} {s : FS} {f : M.Fl ByteArray} (h : FlowIs w g s) (hr : f.opn.length + f.told.length ≤ 50000000) : TurnB s f :=
  ⟨hr, fun e he => by
    obtain ⟨b, hb⟩ := Option.isSome_iff_exists.1 he
    exact tal_keys (h.tal e b hb)⟩

/-- What is asked of a config on the way. -/
structure CfB (C : Cf) : Prop where
  b0 : 0 ≤ C.bound
  b1 : C.bound ≤ 1000
  d1 : C.idle ≤ 100

theorem Touch.cellAt {S : Nat → Prop} {w w' : World} (h : Touch S w w') {b : Nat} (hb : b < w.heap.size) (hn : ¬ S b) : w'.heap[b]? = w.heap[b]? := h.block b hb hn

theorem least_T (bound : Int) (b0 : 0 ≤ bound) : ∀ ps : List M.Pt, (∀ p ∈ ps, Wh.IsT p.most) → Wh.IsT (M.leastOf bound ps)
  | [], _ => by show Wh.IsT M.maxT; unfold Wh.IsT M.maxT; omega
  | p :: ps, h => by
    have ih := least_T bound b0 ps (fun q hq => h q (by simp [hq]))
    have hp := h p (by simp)
    rw [leastOf_cons]
    have ha : Wh.IsT (M.allows bound p) := by
      unfold M.allows M.minT
      unfold Wh.IsT at *
      split
      · omega
      · rename_i hc
        have : ¬ p.most < -9223372036854775808 + bound := fun hx => hc (.inr hx)
        omega
    unfold Wh.IsT at *
    split <;> omega

set_option maxRecDepth 100000 in
set_option maxHeartbeats 4000000 in
theorem moveMark_any (g : Nat) (s : FS) (f : M.Fl ByteArray) (w : World) (h : FlowIs w g s) (hR : FRel s f) (hm : ∀ q ∈ s.ps, Wh.IsT q.most) (hp : ∀ p ∈ f.parts, Wh.IsT p.most) (hn : s.ps.length ≤ 8) (hC : CfB s.C) (hr : f.opn.length + f.told.length ≤ 50000000) :
    Calls Tryz.prog 54 #[.pointer (some ⟨g, 0, none⟩)] w fun r w' => r = .returned (.tuple #[]) ∧ ∃ s', Way w w' g s s' ∧ FRel s' (M.moveF ltK s.C.bound f) ∧ s'.C = s.C := by
  have hgz := h.ob.lt
  have hA : Below w.heap.size w (w.alloc (.cells #[.pointer (some ⟨g, 0, none⟩)] 25)) := (Below.refl _ _).alloc (Nat.le_refl _) _
  have hbx : (w.alloc (.cells #[.pointer (some ⟨g, 0, none⟩)] 25)).heap[w.heap.size]? = some (.cells #[.pointer (some ⟨g, 0, none⟩)] 25 (0, 0)) := heap_alloc_new w _
  have hF1 := h.below hA
  obtain ⟨w1, hw1⟩ : ∃ x, x = w.alloc (.cells #[.pointer (some ⟨g, 0, none⟩)] 25) := ⟨_, rfl⟩
  have hz1 : w1.heap.size = w.heap.size + 1 := by rw [hw1]; simp
  have HW1 := hideP hw1
  rw [← hw1] at hA hbx hF1
  have cb : w1.cell? ⟨w.heap.size, 0, none⟩ = some (.pointer (some ⟨g, 0, none⟩)) := cell_of_row w1 _ 0 _ _ _ hbx
  have AL : Hid (∀ w2 : World, w2.heap = w1.heap → Calls Tryz.prog 73 #[.pointer (some ⟨g, 0, none⟩)] w2 fun r w' => r = .returned (.int .i64 (allowI s.C.bound s.m f.parts)) ∧ Below w2.heap.size w2 w') := fun w2 e2 => allowed_any g s f w2 (hF1.agree fun k _ => by rw [e2]) hR hm hn hC.b0 hC.b1 hC.d1
  have hal : Wh.IsT (allowI s.C.bound s.m f.parts) := by
    unfold allowI
    split
    · exact least_T _ hC.b0 _ hp
    · exact hR.mT
  have TU : Hid (∀ w2 : World, FlowIs w2 g s → w2.heap[w.heap.size]? = some (.cells #[.pointer (some ⟨g, 0, none⟩)] 25 (0, 0)) → Calls Tryz.prog 72 #[.pointer (some ⟨g, 7, none⟩), .int .i64 (allowI s.C.bound s.m f.parts), .func (.func 74) #[] #[.pointer (some ⟨w.heap.size, 0, none⟩)]] w2 fun r w' => r = .returned (.tuple #[]) ∧ ∃ s', Way w2 w' g s s' ∧ FRel s' (M.moveF ltK s.C.bound f) ∧ s'.C = s.C) := fun w2 h2 hb2 => by
    have := turn_any g w.heap.size s f (allowI s.C.bound s.m f.parts) w2 h2 hR (h2.turnB hr) hb2 hal
    rw [onward_allow (by rw [hR.now]; exact hR.inv.hi)] at this
    rw [M.moveF, ← hR.now]
    exact this
  have HF1 := hideP hF1
  have HA := hideP hA
  have HBX := hideP hbx
  obtain ⟨al, hal2⟩ : ∃ x, x = allowI s.C.bound s.m f.parts := ⟨_, rfl⟩
  rw [← hal2] at AL TU
  clear h hR hm hp hA hbx hF1 hal hal2 hw1
  go_enter Tryz.func54, Tryz.ntmps54
  go_wp2_with fail
  rw [← HW1.out]
  go_region_with (first
    | (go_at_call 73; refine (AL.out _ ?_).mono ?_; rfl; rintro r w2 ⟨rfl, hb2⟩; have HB2 := hideP hb2; have cb2 := keepAt hb2 (by simp; omega) cb; clear hb2)
    | (go_at_call 72; refine (TU.out _ ?_ ?_).mono ?_; exact HF1.out.below ⟨HB2.out.os, HB2.out.tape, HB2.out.output, HB2.out.size, HB2.out.block⟩; exact (HB2.out.block _ (by simp; omega)).trans HBX.out; rintro r w3 ⟨rfl, s3, hw3, hr3, hc3⟩))
  all_goals
    go_wp2_with fail
    go_end0
    have B2 : Below w1.heap.size w1 w2 := ⟨HB2.out.os, HB2.out.tape, HB2.out.output, HB2.out.size, HB2.out.block⟩
    exact ⟨rfl, s3, (Way.mk (HF1.out.below B2) (Touch.of_below (HA.out.trans (B2.mono (by omega)))) (fun _ hk => .inl hk)).trans hw3, hr3, hc3⟩
end Go.Proofs.YtnnoaolceeendaaGreatDoor
namespace Go.Proofs.YtnnoaolceeendaaGreatDoor
open Go.ChangeShapes Go.WideShapes Go.ChangeAt Go.RowKit

/-! ### An event counted in one window -/
theorem countP_iff {size fold b v : Int} {key : ByteArray} {x : M.Pn ByteArray} : ∀ {l : List (M.Pn ByteArray)} {o : Option Int}, M.Apart l → (∀ p ∈ l, p.stop = p.start + size) → (∀ n, o = some n ↔ ∃ q ∈ l, q.start = b ∧ q.key = key ∧ q.n = n) →
    (x ∈ M.countP size fold b key v l ↔ (x ∈ l ∧ ¬ (x.start = b ∧ x.key = key)) ∨ (x.start = b ∧ x.stop = b + size ∧ x.key = key ∧ x.n = addV fold o v))
  | [], o, _, _, ho => by
    have : o = none := by
      cases o with
      | none => rfl
      | some n => obtain ⟨q, hq, -⟩ := (ho n).1 rfl; cases hq
    subst this
    simp only [M.countP, List.mem_singleton, List.not_mem_nil, false_and, false_or, addV]
    constructor
    · rintro rfl; exact ⟨rfl, rfl, rfl, rfl⟩
    · obtain ⟨x1, x2, x3, x4⟩ := x
      rintro ⟨h1, h2, h3, h4⟩
      simp only at h1 h2 h3 h4
      rw [h1, h2, h3, h4]
  | p :: r, o, ha, hs, ho => by
    have ha' := List.pairwise_cons.1 ha
    unfold M.countP
    split
    · rename_i hc
      have ho1 : o = some p.n := (ho p.n).2 ⟨p, by simp, hc.1, hc.2, rfl⟩
      subst ho1
      have hp := hs p (by simp)
      rw [List.mem_cons]
      constructor
      · rintro (rfl | hx)
        · exact .inr ⟨hc.1, by simp only; rw [hp, hc.1], hc.2, rfl⟩
        · exact .inl ⟨by simp [hx], fun hm => ha'.1 x hx ⟨hc.1.trans hm.1.symm, hc.2.trans hm.2.symm⟩⟩
      · rintro (⟨hx, hm⟩ | ⟨h1, h2, h3, h4⟩)
        · rcases List.mem_cons.1 hx with rfl | hx
          · exact absurd hc hm
          · exact .inr hx
        · refine .inl ?_
          obtain ⟨x1, x2, x3, x4⟩ := x
          obtain ⟨p1, p2, p3, p4⟩ := p
          simp only [addV] at *
          rw [h1, h2, h3, h4, hp, hc.1, hc.2]
    · rename_i hc
      have ih := countP_iff (x := x) (v := v) (fold := fold) (o := o) ha'.2 (fun q hq => hs q (by simp [hq])) (fun n => by
        rw [ho n]
        constructor
        · rintro ⟨q, hq, h1, h2, h3⟩
          rcases List.mem_cons.1 hq with rfl | hq
          · exact absurd ⟨h1, h2⟩ hc
          · exact ⟨q, hq, h1, h2, h3⟩
        · rintro ⟨q, hq, h1⟩
          exact ⟨q, by simp [hq], h1⟩)
      rw [List.mem_cons, ih]
      constructor
      · rintro (rfl | ⟨hx, hm⟩ | hx)
        · exact .inl ⟨by simp, hc⟩
        · exact .inl ⟨by simp [hx], hm⟩
        · exact .inr hx
      · rintro (⟨hx, hm⟩ | hx)
        · rcases List.mem_cons.1 hx with rfl | hx
          · exact .inl rfl
          · exact .inr (.inl ⟨hx, hm⟩)
        · exact .inr (.inr hx)

theorem wheel_like {n m : Nat} {E E' : Nat → Prop} {S S' : Nat → Nat → List Nat} (h : Wh.Wheel n m E S) (hE : ∀ x, E' x ↔ E x) (hS : ∀ l d, S' l d = S l d) : Wh.Wheel n m E' S' :=
  ⟨fun x hx => h.later x ((hE x).1 hx), fun x hx => h.high x ((hE x).1 hx), fun l d x hl hd => by rw [hS, h.mem l d x hl hd, hE], fun l d hl hd => by rw [hS]; exact h.nodup l d hl hd⟩

def addGM (GM : Int → ByteArray → Option Int) (e : Int) (key : ByteArray) (n : Int) : Int → ByteArray → Option Int := fun x => if x = e then putG (GM e) key n else GM x

theorem FlowIs.added {w w' : World} {g : Nat} {s : FS} (h : FlowIs w g s) {e : Int} {tb : Nat} {key : ByteArray} {n : Int} (ht : s.TM e = some tb) (hto : Touch (fun k => k = tb) w w') (h1 : TalAt w' tb (putG (s.GM e) key n)) : FlowIs w' g { s with GM := addGM s.GM e key n } := by
  have hk : ∀ K k, K ≠ .tal e → kd g s K k → w'.heap[k]? = w.heap[k]? := fun K k hK hk => hto.block k (h.foot_lt (foot_kd.2 ⟨K, hk⟩)) (fun hx => hK (kd_inj h hk (show kd g s (.tal e) k by subst hx; exact ht)))
  refine ⟨(h.ob.agree (hk .flow g (by simp) rfl)).like (fun _ _ => rfl), h.parts.agree (fun k hk' => hk .part k (by simp) hk'), h.tls.agree (hk .tls _ (by simp) rfl), fun x c hc => ?_, h.tin, fun a b ha hb => (h.slot a b ha hb).agree (fun k hk' => hk (.slot a b) k (by simp) ⟨ha, hb, hk'⟩), h.sin, h.told.agree (fun k hk' => hk .pane k (by simp) hk'), h.late.agree (fun k hk' => hk .event k (by simp) hk')⟩
  show TalAt w' c (addGM s.GM e key n x)
  unfold addGM
  split
  · rename_i hx
    subst hx
    have : c = tb := by
      have hc' : s.TM x = some c := hc
      rw [ht] at hc'
      exact (Option.some.inj hc').symm
    subst this
    exact h1
  · rename_i hx
    exact (h.tal x c hc).agree (hk (.tal x) c (fun hy => hx (by simp only [Kd.tal.injEq] at hy; exact hy)) hc)

theorem wait_rk {s : FS} {e : Int} {l d : Nat} (hn : s.TM e = none) (a b : Nat) : (waitSL s e l d a b).map Wh.rk = Wh.putAt (fun l d => (s.SL l d).map Wh.rk) l d (Wh.rk e) a b := by
  unfold waitSL Wh.putAt
  rw [if_pos hn]
  unfold upd
  split
  · simp
  · rfl

theorem FRel.count {s : FS} {f : M.Fl ByteArray} (h : FRel s f) {b fold v : Int} {key : ByteArray} {tb l d : Nat} {sv' : Nat → Nat → Value} (hnow : s.m < b + s.C.size) (hb : Wh.IsT b) (he : Wh.IsT (b + s.C.size)) (hl : Wh.levF (Wh.rk s.m) (Wh.rk (b + s.C.size)) = l) (hd : Wh.dig l (Wh.rk (b + s.C.size)) = d) :
    FRel { s with TM := putM s.TM (b + s.C.size) tb, sv := sv', SL := waitSL s (b + s.C.size) l d, GM := addGM s.GM (b + s.C.size) key (addV fold (s.GM (b + s.C.size) key) v) } { f with opn := M.countP s.C.size fold b key v f.opn } := by
  have hiff : ∀ x, x ∈ M.countP s.C.size fold b key v f.opn ↔ _ := fun x => countP_iff (x := x) (fold := fold) (v := v) (o := s.GM (b + s.C.size) key) h.inv.opn.apart (fun p hp => (h.inv.opn.stop p hp).2) (fun n => by
    rw [h.opn]
    constructor
    · rintro ⟨p, hp, h1, h2, h3⟩
      have := (h.inv.opn.stop p hp).2
      exact ⟨p, hp, by omega, h2, h3⟩
    · rintro ⟨p, hp, h1, h2, h3⟩
      have := (h.inv.opn.stop p hp).2
      exact ⟨p, hp, by omega, h2, h3⟩)
  have hlt := (Wh.rk_lt h.mT he).2 hnow
  refine ⟨h.now, h.told, h.after, ⟨h.inv.opn.count (by rw [← h.now]; exact hnow), h.inv.told, h.inv.sorted, h.inv.hi, h.inv.lo⟩, fun x k n => ?_, fun x => ?_, fun p hp => ?_, fun a c x ha hc hx => ?_, ?_, h.plen, h.parts⟩
  · show addGM s.GM _ key _ x k = some n ↔ ∃ p ∈ M.countP s.C.size fold b key v f.opn, p.stop = x ∧ p.key = k ∧ p.n = n
    unfold addGM
    by_cases hx : x = b + s.C.size
    · rw [if_pos hx]
      unfold putG
      by_cases hk : k = key
      · rw [if_pos hk]
        constructor
        · intro hn
          exact ⟨⟨b, b + s.C.size, key, _⟩, (hiff _).2 (.inr ⟨rfl, rfl, rfl, rfl⟩), hx.symm, hk.symm, Option.some.inj hn⟩
        · rintro ⟨p, hp, h1, h2, h3⟩
          rcases (hiff p).1 hp with ⟨hp1, hp2⟩ | ⟨hp1, hp2, hp3, hp4⟩
          · have := (h.inv.opn.stop p hp1).2
            exact absurd ⟨by omega, h2.trans hk⟩ hp2
          · rw [← h3, hp4]
      · rw [if_neg hk, h.opn]
        constructor
        · rintro ⟨p, hp, h1, h2, h3⟩
          exact ⟨p, (hiff p).2 (.inl ⟨hp, fun hm => hk (h2.symm.trans hm.2)⟩), by rw [h1, hx], h2, h3⟩
        · rintro ⟨p, hp, h1, h2, h3⟩
          rcases (hiff p).1 hp with ⟨hp1, -⟩ | ⟨-, -, hp3, -⟩
          · exact ⟨p, hp1, by rw [h1, hx], h2, h3⟩
          · exact absurd (h2.symm.trans hp3) hk
    · rw [if_neg hx, h.opn]
      constructor
      · rintro ⟨p, hp, h1, h2, h3⟩
        have := (h.inv.opn.stop p hp).2
        exact ⟨p, (hiff p).2 (.inl ⟨hp, fun hm => hx (by rw [← h1, this, hm.1])⟩), h1, h2, h3⟩
      · rintro ⟨p, hp, h1, h2, h3⟩
        rcases (hiff p).1 hp with ⟨hp1, -⟩ | ⟨-, hp2, -⟩
        · exact ⟨p, hp1, h1, h2, h3⟩
        · exact absurd (h1.symm.trans hp2) hx
  · show (putM s.TM _ tb x).isSome = true ↔ ∃ p ∈ M.countP s.C.size fold b key v f.opn, p.stop = x
    unfold putM
    by_cases hx : x = b + s.C.size
    · rw [if_pos hx]
      exact ⟨fun _ => ⟨⟨b, b + s.C.size, key, _⟩, (hiff _).2 (.inr ⟨rfl, rfl, rfl, rfl⟩), hx.symm⟩, fun _ => rfl⟩
    · rw [if_neg hx, h.tm]
      constructor
      · rintro ⟨p, hp, h1⟩
        have := (h.inv.opn.stop p hp).2
        exact ⟨p, (hiff p).2 (.inl ⟨hp, fun hm => hx (by rw [← h1, this, hm.1])⟩), h1⟩
      · rintro ⟨p, hp, h1⟩
        rcases (hiff p).1 hp with ⟨hp1, -⟩ | ⟨-, hp2, -⟩
        · exact ⟨p, hp1, h1⟩
        · exact absurd (h1.symm.trans hp2) hx
  · rcases (hiff p).1 hp with ⟨hp1, -⟩ | ⟨hp1, hp2, -⟩
    · exact h.time p hp1
    · rw [hp1, hp2]; exact ⟨he, hb⟩
  · have hx2 : x ∈ waitSL s (b + s.C.size) l d a c := hx
    unfold waitSL at hx2
    split at hx2
    · unfold upd at hx2
      split at hx2
      · rename_i hac
        rcases List.mem_append.1 hx2 with hx3 | hx3
        · exact h.slotT l d x (by rw [← hac.1]; exact ha) (by rw [← hac.2]; exact hc) hx3
        · simp only [List.mem_singleton] at hx3
          subst hx3
          exact he
      · exact h.slotT a c x ha hc hx2
    · exact h.slotT a c x ha hc hx2
  · show Wh.Wheel 16 (Wh.rk s.m) (fun x => ∃ e, (putM s.TM (b + s.C.size) tb e).isSome = true ∧ Wh.rk e = x) (fun a c => (waitSL s (b + s.C.size) l d a c).map Wh.rk)
    obtain ⟨o, ho⟩ : ∃ o, s.TM (b + s.C.size) = o := ⟨_, rfl⟩
    cases o with
    | none =>
      have hl16 : l < 16 := by rw [← hl]; exact lev_lt h.mT he (by omega)
      have P := h.wheel.place (e := Wh.rk (b + s.C.size)) (l := l) (fun ⟨e', h1, h2⟩ => by
        have := Wh.rk_inj (h.tmT h1) he h2
        subst this
        rw [ho] at h1
        cases h1) hlt (by rw [Nat.div_eq_of_lt (Wh.rk_bd h.mT), Nat.div_eq_of_lt (Wh.rk_bd he)]) (by rw [← hl]; exact Wh.levF_is (by omega)) hl16
      rw [hd] at P
      refine wheel_like P (fun x => ?_) (fun a c => wait_rk ho a c)
      constructor
      · rintro ⟨e', h1, rfl⟩
        unfold putM at h1
        split at h1
        · rename_i hx; rw [hx]; exact .inr rfl
        · exact .inl ⟨e', h1, rfl⟩
      · rintro (⟨e', h1, rfl⟩ | rfl)
        · refine ⟨e', ?_, rfl⟩
          unfold putM
          split
          · rfl
          · exact h1
        · exact ⟨_, by unfold putM; rw [if_pos rfl]; rfl, rfl⟩
    | some b' =>
      refine wheel_like h.wheel (fun x => ?_) (fun a c => ?_)
      · constructor
        · rintro ⟨e', h1, rfl⟩
          unfold putM at h1
          split at h1
          · rename_i hx; exact ⟨e', by rw [hx, ho]; rfl, rfl⟩
          · exact ⟨e', h1, rfl⟩
        · rintro ⟨e', h1, rfl⟩
          refine ⟨e', ?_, rfl⟩
          unfold putM
          split
          · rfl
          · exact h1
      unfold waitSL
      rw [if_neg (by rw [ho]; simp)]
end Go.Proofs.YtnnoaolceeendaaGreatDoor
