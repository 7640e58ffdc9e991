import Derived.Test.YtnnoaolceeendaaDoorLawI
namespace Go.Proofs.YtnnoaolceeendaaDoor
open Go.ChangeShapes Go.WideShapes Go.ChangeAt Go.RowKit
set_option linter.unusedVariables false

def aliveC : Cf := ⟨10, 10, 0, 0, 1, 1⟩
def aliveEs : List (M.Ev ByteArray) := [⟨0, ⟨#[97]⟩, 3, 5⟩, ⟨0, ⟨#[97]⟩, 7, 6⟩]
theorem alive_good : aliveC.good = true := by decide
theorem alive_put : (putR aliveC aliveEs (M.newF 1)).1 = 2 ∧ (putR aliveC aliveEs (M.newF 1)).2.1 = 0 := by decide +kernel
theorem alive_end : (endR aliveC [0] (putR aliveC aliveEs (M.newF 1)).2.2).1 = 1 ∧ (endR aliveC [0] (putR aliveC aliveEs (M.newF 1)).2.2).2.1 = 0 := by decide +kernel
theorem alive_told : (endR aliveC [0] (putR aliveC aliveEs (M.newF 1)).2.2).2.2.told = [⟨0, 10, ⟨#[97]⟩, 11⟩] := by rfl

theorem alive_times : timesOk aliveEs := fun e he => by
  simp only [aliveEs, List.mem_cons, List.not_mem_nil, or_false] at he
  rcases he with rfl | rfl <;> exact ⟨by decide, by decide, by decide, by decide, by decide⟩
theorem alive_room : Room (putR aliveC aliveEs (M.newF 1)).2.2 0 := ⟨by decide +kernel, by decide +kernel⟩

set_option maxRecDepth 100000 in
set_option maxHeartbeats 4000000 in
theorem alive_any {L : World → Prop} {B0 : Nat} {FA : World → Nat → Cf → M.Fl ByteArray → (Nat → Prop) → Prop} (T : Tide L B0 FA) (w : World) (hL : L w) :
    Calls Tryd.prog 4 #[] w fun r w' => r = .returned (.bool true) ∧ Below w.heap.size w w' := by
  have HT := hideP T
  have HL := hideP hL
  clear T hL
  go_enter Tryd.func4, Tryd.ntmps4
  go_wp2_with fail
  refine (HT.out.new_yes aliveC _ HL.out alive_good).mono ?_
  rintro r w1 ⟨g, S, rfl, f1, b1, n1⟩
  have F1 := hideP f1
  have N1 := hideP n1
  have B1 := hideP b1
  have z1 : w.heap.size ≤ w1.heap.size := b1.size
  clear f1 b1 n1
  go_wp2_with (go_at_call 8; refine (num_any _ _).mono ?_; rintro r w9 ⟨rfl, rfl⟩)
  have hz : w.heap.size ≤ w9.heap.size := B1.out.size
  have hA := (Below.refl w9.heap.size w9).alloc (Nat.le_refl _) (.cells #[.int .i64 0, .string ⟨#[97]⟩, .int .i64 3, .int .i64 5, .int .i64 0, .string ⟨#[97]⟩, .int .i64 7, .int .i64 6] 51)
  refine (HT.out.put aliveEs _ (HT.out.below F1.out hA) alive_good ⟨⟨_, _, rfl⟩, fun k e he => ?_⟩ (fun b hb hs => ?_) alive_times ⟨by decide, by decide⟩ (newF_ok _ (by decide))).mono ?_
  · refine ⟨w9.heap.size, 0, 2, rfl, by simp, ?_⟩
    match k, he with
    | 0, he => cases he; exact ⟨World.cell?_alloc_new .., World.cell?_alloc_new .., World.cell?_alloc_new .., World.cell?_alloc_new ..⟩
    | 1, he => cases he; exact ⟨World.cell?_alloc_new .., World.cell?_alloc_new .., World.cell?_alloc_new .., World.cell?_alloc_new ..⟩
    | k + 2, he => cases he
  · have h1 := HT.out.lt F1.out b hs
    have h2 := heldIn_own hb
    simp only [Value.ownBlock, Option.some.injEq] at h2
    omega
  rintro r w2 ⟨hr, S2, f2, t2, s2⟩
  rw [show aliveC.parts.toNat = 1 from rfl, alive_put.1, alive_put.2] at hr
  subst hr
  have F2 := hideP f2
  have B2 := hideP ((B1.out.trans (hA.mono hz)).trans (t2.below (B := w.heap.size) (by simp; omega) N1.out))
  have N2 : Hid (∀ k, S2 k → w.heap.size ≤ k) := fun k hk => by
    rcases s2 k hk with h | h
    · exact N1.out k h
    · simp at h; omega
  clear f2 t2 s2 hA
  go_wp2_with fail
  have hz2 : w.heap.size ≤ w2.heap.size := B2.out.size
  have hA := (Below.refl w2.heap.size w2).alloc (Nat.le_refl _) (.cells #[.int .i64 0] 3)
  refine (HT.out.fin [0] _ 0 (HT.out.below F2.out hA) alive_good ⟨⟨_, _, rfl⟩, fun k e he => ?_⟩ (fun b hb hs => ?_) (by decide) alive_room (putR_ok _ _ _ alive_times (newF_ok _ (by decide)))).mono ?_
  · refine ⟨w2.heap.size, 0, 1, rfl, by simp, ?_⟩
    match k, he with
    | 0, he => cases he; exact World.cell?_alloc_new ..
    | k + 1, he => cases he
  · have h1 := HT.out.lt F2.out b hs
    have h2 := heldIn_own hb
    simp only [Value.ownBlock, Option.some.injEq] at h2
    omega
  rintro r w3 ⟨hr, S3, f3, t3, s3⟩
  rw [show aliveC.parts.toNat = 1 from rfl, alive_end.1, alive_end.2] at hr
  subst hr
  have F3 := hideP f3
  have B3 := hideP ((B2.out.trans (hA.mono hz2)).trans (t3.below (B := w.heap.size) (by simp; omega) N2.out))
  have hz3 : w.heap.size ≤ w3.heap.size := B3.out.size
  clear f3 t3 s3 hA
  go_wp2_with fail
  refine (HT.out.panes F3.out (by rw [show aliveC.parts.toNat = 1 from rfl, alive_told]; decide)).mono ?_
  rintro r w4 ⟨lv, rfl, hl, hb4⟩
  rw [show aliveC.parts.toNat = 1 from rfl, alive_told] at hl
  have B4 := hideP (B3.out.trans (hb4.mono hz3))
  obtain ⟨lb, lc, rfl, -, hlt, hc, -⟩ := hl.at pnC_len (i := 0) rfl
  have c0 : w4.cell? ⟨lb, 0, none⟩ = some (.int .i64 0) := hc 0 (by decide)
  have c1 : w4.cell? ⟨lb, 1, none⟩ = some (.int .i64 10) := hc 1 (by decide)
  have c2 : w4.cell? ⟨lb, 2, none⟩ = some (.string ⟨#[97]⟩) := hc 2 (by decide)
  have c3 : w4.cell? ⟨lb, 3, none⟩ = some (.int .i64 11) := hc 3 (by decide)
  clear hl hb4 hc
  go_wp2_with (go_at_call 8; refine (num_any _ _).mono ?_; rintro r w9 ⟨rfl, rfl⟩)
  go_ret
  exact ⟨by simp, B4.out⟩
end Go.Proofs.YtnnoaolceeendaaDoor
namespace Go.Proofs.YtnnoaolceeendaaDoor
open Go.ChangeShapes Go.WideShapes Go.ChangeAt Go.RowKit
set_option linter.unusedVariables false

theorem newF_inv (size : Int) (n : Nat) : M.Inv ltK size (M.newF n : M.Fl ByteArray) :=
  ⟨⟨fun p hp => by simp [M.newF] at hp, List.Pairwise.nil⟩, fun p hp => by simp [M.newF] at hp, List.Pairwise.nil, by simp [M.newF, M.minT, M.maxT], by simp [M.newF, M.minT]⟩

theorem putR_inv (C : Cf) : ∀ (es : List (M.Ev ByteArray)) (f : M.Fl ByteArray), M.Inv ltK C.size f → M.Inv ltK C.size (putR C es f).2.2 ∧ M.Step f (putR C es f).2.2
  | [], f, h => ⟨h, M.Step.refl f⟩
  | e :: es, f, h => by
    rw [putR]
    split
    · exact ⟨h, M.Step.refl f⟩
    · split
      · exact ⟨h, M.Step.refl f⟩
      · have h1 := M.take_inv soK (size := C.size) (fold := C.fold) (bound := C.bound) (ws := C.ws) e h
        have h2 := putR_inv C es _ h1.1
        exact ⟨h2.1, h1.2.trans h2.2⟩

theorem endR_inv (C : Cf) : ∀ (es : List Int) (f : M.Fl ByteArray), M.Inv ltK C.size f → M.Inv ltK C.size (endR C es f).2.2 ∧ M.Step f (endR C es f).2.2
  | [], f, h => ⟨h, M.Step.refl f⟩
  | e :: es, f, h => by
    rw [endR]
    split
    · exact ⟨h, M.Step.refl f⟩
    · split
      · exact ⟨h, M.Step.refl f⟩
      · have h1 := M.end_inv soK (size := C.size) (bound := C.bound) e.toNat h
        have h2 := endR_inv C es _ h1.1
        exact ⟨h2.1, h1.2.trans h2.2⟩

theorem ticks_inv (C : Cf) : ∀ (n : Nat) (f : M.Fl ByteArray), M.Inv ltK C.size f → M.Inv ltK C.size (ticksF C n f) ∧ M.Step f (ticksF C n f)
  | 0, f, h => ⟨h, M.Step.refl f⟩
  | n + 1, f, h => by
    have h1 := ticks_inv C n f h
    have h2 := M.tick_inv soK (size := C.size) (bound := C.bound) (idle := C.idle) h1.1
    exact ⟨h2.1, h1.2.trans h2.2⟩

theorem tickR_inv (C : Cf) (n : Int) (f : M.Fl ByteArray) (h : M.Inv ltK C.size f) : M.Inv ltK C.size (tickR C n f).2 ∧ M.Step f (tickR C n f).2 := by
  unfold tickR
  split
  · exact ⟨h, M.Step.refl f⟩
  · exact ticks_inv C _ f h

theorem stepF_inv (C : Cf) (kind n : Int) (es : List (M.Ev ByteArray)) (ps : List Int) (f : M.Fl ByteArray) (h : M.Inv ltK C.size f) : M.Inv ltK C.size (stepF C kind es ps n f) ∧ M.Step f (stepF C kind es ps n f) := by
  unfold stepF
  split
  · exact putR_inv C es f h
  · split
    · exact tickR_inv C n f h
    · split
      · exact endR_inv C ps f h
      · exact ⟨h, M.Step.refl f⟩

/-- What holds of the flow ahead of the script's step k. -/
def OrdQ (C : Cf) (sc : List Sc) (k : Nat) (q : M.Fl ByteArray) : Prop := Room q (tot (sc.drop k)) ∧ FlOk C q ∧ silentOk (1000 * k) q.parts ∧ M.Inv ltK C.size q

theorem OrdQ.start (C : Cf) (sc : List Sc) (hp : C.parts.toNat ≤ 8) (ht : tot sc ≤ 2000000) : OrdQ C sc 0 (M.newF C.parts.toNat) :=
  ⟨newF_room (by simpa using by omega), newF_ok C hp, newF_silent _, newF_inv _ _⟩

theorem OrdQ.step {C : Cf} {sc : List Sc} {k : Nat} {q : M.Fl ByteArray} {o : Sc} (h : OrdQ C sc k q) (ho : sc[k]? = some o) (ht : timesOk o.es) :
    OrdQ C sc (k + 1) (stepF C o.kind o.es o.ps o.n q) ∧ M.Step q (stepF C o.kind o.es o.ps o.n q) := by
  obtain ⟨h1, h2, h3, h4⟩ := h
  have hi := stepF_inv C o.kind o.n o.es o.ps q h4
  refine ⟨⟨stepF_room C _ _ _ _ _ _ (by rw [← tot_drop ho]; exact h1), stepF_ok C _ _ _ _ _ ht h2, ?_, hi.1⟩, hi.2⟩
  have := stepF_silent C o.kind o.n o.es o.ps _ (by omega) h3
  rw [show (1000 * ((k + 1 : Nat) : Int)) = 1000 * (k : Int) + 1000 by omega]
  exact this

/-- What the loop of Ordered holds: a flow, and a row of what it had told. -/
structure Solo (FA : World → Nat → Cf → M.Fl ByteArray → (Nat → Prop) → Prop) (w0 w : World) (g : Nat) (C : Cf) (q : M.Fl ByteArray) (S : Nat → Prop) (lv : Value) (l : List (M.Pn ByteArray)) : Prop where
  fa : FA w g C q S
  new : ∀ k, S k → w0.heap.size ≤ k
  below : Below w0.heap.size w0 w
  row : RowIs pnC w w0.heap.size 48 4 lv l
  off : ∀ b, lv.ownBlock = some b → ¬ S b

section
variable {L : World → Prop} {B0 : Nat} {FA : World → Nat → Cf → M.Fl ByteArray → (Nat → Prop) → Prop} {w0 w w1 : World} {g : Nat} {C : Cf} {q q1 : M.Fl ByteArray} {S S1 : Nat → Prop} {lv : Value} {l : List (M.Pn ByteArray)}

theorem Solo.keep (T : Tide L B0 FA) (h : Solo FA w0 w g C q S lv l) (hb : Below w.heap.size w w1) : Solo FA w0 w1 g C q S lv l :=
  ⟨T.below h.fa hb, h.new, h.below.trans (hb.mono h.below.size), h.row.below hb, h.off⟩

/-- A step of the flow. -/
theorem Solo.step (T : Tide L B0 FA) (h : Solo FA w0 w g C q S lv l) (hf : FA w1 g C q1 S1) (t : Touch S w w1) (hs : ∀ k, S1 k → S k ∨ w.heap.size ≤ k) : Solo FA w0 w1 g C q1 S1 lv l := by
  refine ⟨hf, fun k hk => ?_, h.below.trans (t.below h.below.size h.new), t.row h.row h.off, fun b hb hk => ?_⟩
  · rcases hs k hk with h' | h'
    · exact h.new k h'
    · exact Nat.le_trans h.below.size h'
  · rcases hs b hk with h' | h'
    · exact h.off b hb h'
    · have := (h.row.lt b hb).2; omega

/-- Behind the panes' answer: the row is the new one. -/
theorem Solo.turn (T : Tide L B0 FA) (h : Solo FA w0 w g C q S lv l) {lu : Value} {l1 : List (M.Pn ByteArray)} (hb : Below w.heap.size w w1) (hr : RowIs pnC w1 w.heap.size 48 4 lu l1) : Solo FA w0 w1 g C q S lu l1 :=
  ⟨T.below h.fa hb, h.new, h.below.trans (hb.mono h.below.size), hr.base h.below.size, fun b hb' hs => by have h1 := (hr.lt b hb').1; have h2 := T.lt h.fa b hs; omega⟩

theorem Tide.lookAt (T : Tide L B0 FA) {S : Nat → Prop} (h : FA w g C q S) (a x : Nat) : Calls Tryd.prog 9 #[.pointer (some ⟨g, 0, none⟩)] (w.drewN (a + x)) fun e w'' => e = .returned (.int .i64 q.now) ∧ ∃ n, w'' = w.drewN (a + n) :=
  (T.look (T.below (w' := w.drewN (a + x)) h ⟨rfl, rfl, rfl, Nat.le_refl _, fun _ _ => rfl⟩)).mono fun _ _ ⟨he, m, hm⟩ => ⟨he, x + m, by rw [hm, World.drewN_drewN, Nat.add_assoc]⟩
end
end Go.Proofs.YtnnoaolceeendaaDoor
