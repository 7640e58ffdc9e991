import Derived.Test.YtnnoaolceeendaaGreatDoorRefJ
import Derived.Deep.DeepCutAuto
namespace Go.Proofs.YtnnoaolceeendaaGreatDoor
open Go.ChangeShapes Go.WideShapes Go.ChangeAt Go.RowKit

/-- A config that is good, as far as the flow leans on it. -/
structure CfOk (C : Cf) : Prop where
  s1 : 1 ≤ C.slide
  s2 : C.slide ≤ C.size
  s3 : C.size ≤ 1000
  b0 : 0 ≤ C.bound
  b1 : C.bound ≤ 1000
  f0 : 0 ≤ C.fold
  f3 : C.fold ≤ 3

def Cf.ws (C : Cf) (t : Int) : List Int := wins t C.size C.slide

theorem drawn_below {w : World} (n : Nat) : Below w.heap.size w (w.drewN n) := ⟨rfl, rfl, rfl, Nat.le_refl _, fun _ _ => rfl⟩
theorem drew_below {w : World} : Below w.heap.size w w.drew := ⟨rfl, rfl, rfl, Nat.le_refl _, fun _ _ => rfl⟩

theorem RowIs.frozen {α : Type} {enc : α → List Value} {w : World} {B e s g n cap : Nat} {l : List α} (h : RowIs enc w B e s (.slice (some ⟨g, 0, none⟩) n cap) l) (j : Nat) : w.frozen? ⟨g, j, none⟩ = false := by
  rcases h.2 with ⟨h', _⟩ | ⟨g', cap', cur, h', _, hg, _⟩
  · simp at h'
  · simp only [Value.slice.injEq, Option.some.injEq, Addr.mk.injEq, and_true] at h'
    obtain ⟨rfl, _⟩ := h'
    exact frozen_of_row w g j cur e hg

/-- What 'take' holds behind its loop. -/
structure Tail (S : Nat → Prop) (w wr : World) (g : Nat) (C : Cf) (f : M.Fl ByteArray) (e : M.Ev ByteArray) (eb : Nat) (pv ov tv av : Value) : Prop where
  ref : RefAt wr g C f pv ov tv av
  box : wr.heap[eb]? = some (.cells #[.int .i64 e.part, .string e.key, .int .i64 e.at_, .int .i64 e.val] 90 (0, 0))
  far : ¬ feet g pv ov tv av eb
  touch : Touch S w wr
  feet : ∀ b, feet g pv ov tv av b → S b ∨ w.heap.size ≤ b

theorem Tail.same {S : Nat → Prop} {w wr w1 : World} {g : Nat} {C : Cf} {f : M.Fl ByteArray} {e : M.Ev ByteArray} {eb : Nat} {pv ov tv av : Value} (h : Tail S w wr g C f e eb pv ov tv av) (he : Below wr.heap.size wr w1) : Tail S w w1 g C f e eb pv ov tv av :=
  ⟨h.ref.below he, (he.block eb (lt_of_block h.box)).trans h.box, h.far, h.touch.trans (Touch.of_below (S := S) he) (fun _ h => .inl h), h.feet⟩

theorem Tail.part {S : Nat → Prop} {w wr : World} {g : Nat} {C : Cf} {f : M.Fl ByteArray} {e : M.Ev ByteArray} {eb pb n cap : Nat} {ov tv av : Value} (h : Tail S w wr g C f e eb (.slice (some ⟨pb, 0, none⟩) n cap) ov tv av) (hn : f.parts.length = n) {i j : Nat} {x y : M.Pt} {u : Value} (hx : f.parts[i]? = some x) (hj : j < 5) (he : ptC y = (ptC x).set j u) :
    Tail S w (wr.setCell ⟨pb, i * 5 + j, none⟩ u) g C { f with parts := f.parts.set i y } e eb (.slice (some ⟨pb, 0, none⟩) n cap) ov tv av :=
  ⟨h.ref.setPart hn hx hj he, (Below.heap_setCell wr _ u eb (fun e => h.far (.inr (.inl (by simp only [Value.ownBlock]; rw [e]))))).trans h.box, h.far,
    h.touch.trans (Touch.set (a := ⟨pb, i * 5 + j, none⟩) (S := fun b => b = pb) rfl u) (fun b hb => by subst hb; exact h.feet _ (.inr (.inl rfl))), h.feet⟩

theorem Tail.late {S : Nat → Prop} {w wr w1 : World} {g : Nat} {C : Cf} {f : M.Fl ByteArray} {e : M.Ev ByteArray} {eb : Nat} {pv ov tv av av' : Value} {l : List (M.Ev ByteArray)} (h : Tail S w wr g C f e eb pv ov tv av) (hr : RowIs evC w1 0 90 4 av' l) (hg : Grows wr w1 av av') :
    Tail S w (w1.setCell ⟨g, 10, none⟩ av') g C { f with after := l } e eb pv ov tv av' := by
  obtain ⟨r1, r2, r3⟩ := h.ref.regrowAfter hr hg
  refine ⟨r1, (r3.block eb (lt_of_block h.box) h.far).trans h.box, fun hf => ?_, h.touch.trans r3 h.feet, fun q hf => ?_⟩
  · rcases r2 eb hf with h' | h'
    · exact h.far h'
    · have := lt_of_block h.box; omega
  · rcases r2 q hf with h' | h'
    · exact h.feet q h'
    · exact .inr (Nat.le_trans h.touch.size h')

theorem late_cnt {size now : Int} {ws : List Int} : M.isLate size now ws = true ↔ (ws.filter fun b => decide (now < b + size)).length = 0 := by
  rw [List.length_eq_zero_iff, List.filter_eq_nil_iff, M.isLate, List.all_eq_true]
  constructor
  · intro h b hb
    have := h b hb
    simp at this ⊢
    omega
  · intro h b hb
    have := h b hb
    simp at this ⊢
    omega

theorem modify_set {α : Type} (q : α → α) : ∀ {l : List α} {i : Nat} {x : α}, l[i]? = some x → l.modify i q = l.set i (q x)
  | [], _, _, h => by simp at h
  | y :: l, 0, x, h => by
    simp at h
    subst h
    rfl
  | y :: l, i + 1, x, h => by
    have h' : l[i]? = some x := by simpa using h
    show y :: l.modify i q = y :: l.set i (q x)
    rw [modify_set q h']

theorem mostOk_set {l : List M.Pt} (h : mostOk l) {i : Nat} {y : M.Pt} (h1 : -9223372036854775808 ≤ y.most) (h2 : y.most ≤ 9223372036854775807) : mostOk (l.set i y) := fun p hp => by
  rcases List.mem_or_eq_of_mem_set hp with h' | h'
  · exact h p h'
  · subst h'; exact ⟨h1, h2⟩

theorem Tryz.infoEv : (Tryz.prog.info? 90).map (fun i => (i.zero, i.size, i.bytes)) = some (some (.agg #[.int .i64 0, .string ByteArray.empty, .int .i64 0, .int .i64 0]), 4, 40) := by kernel_rfl

attribute [local go_sem ↓] Go.wp_at_zero Go.wp_at_succ

set_option maxRecDepth 100000 in
set_option maxHeartbeats 8000000 in
theorem rtake_any (g : Nat) (C : Cf) (hC : CfOk C) (f : M.Fl ByteArray) (e : M.Ev ByteArray) (pv ov tv av : Value) (w : World) (hr : RefAt w g C f pv ov tv av) (i : Nat) (hi : e.part = (i : Int)) (hin : i < f.parts.length) (hm : mostOk f.parts) (hl8 : f.parts.length ≤ 8) (ht1 : -9223372036854775808 ≤ e.at_) (ht2 : e.at_ ≤ 9223372036854775807)
    (hn : f.opn.length ≤ 50000000) (hn2 : f.told.length ≤ 100000000) (hn3 : f.after.length ≤ 100000000) :
    Calls Tryz.prog 55 #[.pointer (some ⟨g, 0, none⟩), .agg #[.int .i64 e.part, .string e.key, .int .i64 e.at_, .int .i64 e.val]] w fun r w' => r = .returned (.tuple #[]) ∧ RefTo (feet g pv ov tv av) w w' g C (M.takeF ltK C.size C.fold C.bound C.ws e f) := by
  obtain ⟨x, hx⟩ : ∃ x, f.parts[i]? = some x := ⟨_, List.getElem?_eq_getElem hin⟩
  obtain ⟨pb, cp, ev, -, hpb, e0, e1, e2, e3, e4⟩ := pt_at hr.parts hx
  subst ev
  have HX := hideP hx
  obtain ⟨ep, key, at_, val⟩ := e
  simp only at hi ht1 ht2
  subst hi
  have HR := hideP hr
  have HM := hideP hm
  have HC := hideP hC
  have hlt := lt_of_block hr.obj
  have c6 := hr.cells.2.2.2.2.2.2.1
  have hfr : ∀ j, w.frozen? ⟨pb, j, none⟩ = false := fun j => World.ownsRow.frozenAt hr.parts j
  have i1 : (0 : Int) ≤ (i : Int) := by omega
  have i2 : (i : Int) < (f.parts.length : Int) := by omega
  obtain ⟨y, hy⟩ : ∃ y : M.Pt, y = { x with idle := false, silent := 0 } := ⟨_, rfl⟩
  have R1 := hr.setPart rfl (j := 3) (y := { x with idle := false }) (u := .bool false) hx (by omega) rfl
  have R2 := R1.setPart (by simp) (i := i) (j := 4) (x := { x with idle := false }) (y := y) (u := .int .i64 0) (by rw [List.getElem?_set_self (by exact hin)]) (by omega) (by rw [hy]; rfl)
  simp only [List.set_set] at R2
  have T2 : Touch (feet g (.slice (some ⟨pb, 0, none⟩) f.parts.length cp) ov tv av) w ((w.setCell ⟨pb, i * 5 + 3, none⟩ (.bool false)).setCell ⟨pb, i * 5 + 4, none⟩ (.int .i64 0)) :=
    (Touch.set (a := ⟨pb, i * 5 + 3, none⟩) (S := feet g (.slice (some ⟨pb, 0, none⟩) f.parts.length cp) ov tv av) (.inr (.inl rfl)) _).trans (Touch.set (a := ⟨pb, i * 5 + 4, none⟩) (S := feet g (.slice (some ⟨pb, 0, none⟩) f.parts.length cp) ov tv av) (.inr (.inl rfl)) _) (fun _ h => .inl h)
  have HR2 := hideP R2
  have HT2 := hideP T2
  have HY := hideP hy
  clear hr hx R1 R2 T2 hy hm hC
  have hsz2 : ((w.setCell ⟨pb, i * 5 + 3, none⟩ (.bool false)).setCell ⟨pb, i * 5 + 4, none⟩ (.int .i64 0)).heap.size = w.heap.size := by simp
  have HSZ2 := hideP hsz2
  clear hsz2
  go_enter Tryz.func55, Tryz.ntmps55
  go_wp2_with fail
  go_region
  go_wp2_with fail
  go_region
  generalize (w.setCell ⟨pb, i * 5 + 3, none⟩ (.bool false)).setCell ⟨pb, i * 5 + 4, none⟩ (.int .i64 0) = w2 at HR2 HT2 HSZ2 ⊢
  generalize hw3 : ((w2.alloc (.cells #[.int .i64 (i : Int), .string key, .int .i64 at_, .int .i64 val] 90)).drew).drew = w3
  have hb3 : Below w2.heap.size w2 w3 := by rw [← hw3]; exact ((((Below.refl _ _).alloc (Nat.le_refl _) _).drew).drew)
  have hbox : w3.heap[w.heap.size]? = some (.cells #[.int .i64 (i : Int), .string key, .int .i64 at_, .int .i64 val] 90 (0, 0)) := by rw [← hw3, ← HSZ2.out]; exact heap_alloc_new w2 _
  have hsz3 : w.heap.size + 1 ≤ w3.heap.size := by rw [← hw3, ← HSZ2.out]; simp
  have HR3 := hideP (HR2.out.below hb3)
  have HT3 := hideP (HT2.out.trans (Touch.of_below (S := feet g (.slice (some ⟨pb, 0, none⟩) f.parts.length cp) ov tv av) hb3) (fun _ h => .inl h))
  have HB3 := hideP hbox
  obtain ⟨c0, c1, -⟩ := HR3.out.cells
  have k2 : w3.cell? ⟨w.heap.size, 2, none⟩ = some (.int .i64 at_) := cell_of_row w3 w.heap.size 2 _ _ _ hbox
  clear hw3 hb3 hbox e0 e1 e2 e3 e4 c6 hfr hpb
  go_wp2_with fail
  go_region_held3 (fun w' => w'.cell? ⟨w.heap.size, 2, none⟩ = some (.int .i64 at_) ∧ w'.cell? ⟨g, 0, none⟩ = some (.int .i64 C.size) ∧ w'.cell? ⟨g, 1, none⟩ = some (.int .i64 C.slide))
    (first | go_keep | (go_split_ands; refine ⟨keepAt hb4 (by simp; omega) (by assumption), keepAt hb4 (by simp; omega) (by assumption), keepAt hb4 (by simp; omega) (by assumption)⟩))
    ((go_at_call 39; refine (rbegins_any _ _ _ _ ht1 ht2 HC.out.s1 HC.out.s2 HC.out.s3).mono ?_; rintro r w4 ⟨bv, rfl, hbv, hb4⟩))
  obtain ⟨ba, bc, ebv⟩ := (int_row hbv).slice
  subst ebv
  have hb34 : Below w3.heap.size w3 w4 := ⟨hb4.os, hb4.tape, hb4.output, hb4.size, hb4.block⟩
  have HWS : Hid ((wins at_ C.size C.slide) = C.ws at_) := rfl
  rw [HWS.out] at hbv ⊢
  obtain ⟨ws, hws⟩ : ∃ ws, ws = C.ws at_ := ⟨_, rfl⟩
  rw [← hws] at hbv ⊢
  have hwl : ws.length ≤ 11 := by rw [hws]; exact wins_len _ _ _
  have hwb : ∀ b ∈ ws, b ≤ at_ ∧ at_ < b + C.size ∧ b + C.size ≤ 9223372036854775807 ∧ -9223372036854775808 ≤ b := fun b hb => wins_ok HC.out.s1 (by rw [hws] at hb; exact hb)
  have HWB := hideP hwb
  have HW := hideP hws
  have T4 : Hid (Taking (feet g (.slice (some ⟨pb, 0, none⟩) f.parts.length cp) ov tv av) w w4 g C { f with parts := f.parts.set i y } ⟨(i : Int), key, at_, val⟩ ws 0 0 w.heap.size (.slice (some ⟨pb, 0, none⟩) f.parts.length cp) ov tv av (.slice ba ws.length bc)) := by
    have hfl : ∀ b, feet g (.slice (some ⟨pb, 0, none⟩) f.parts.length cp) ov tv av b → b < w.heap.size := fun b hb => HR.out.feet_lt hb
    refine ⟨HR3.out.below hb34, (int_row hbv).base (Nat.zero_le _), fun b hb hf => ?_, (hb34.block _ (by omega)).trans HB3.out, fun hf => ?_, HT3.out.trans (Touch.of_below (S := feet g (.slice (some ⟨pb, 0, none⟩) f.parts.length cp) ov tv av) hb34) (fun _ h => .inl h), fun b hf => .inl hf, rfl⟩
    · have h1 := (World.ownsRow.lt hbv b hb).1
      have h2 := hfl b hf
      simp at h1
      omega
    · have := hfl _ hf; omega
  have c10 := HC.out.s2
  have c11 := HC.out.s1
  have c12 := HC.out.s3
  clear hws hwb hbv hb4 hb34 c0 c1 k2
  go_wp2_with fail
  go_loopw [5, 6] (fun nn ii wr => ∃ (k : Nat) (n : Int) (ov' : Value), k ≤ ws.length ∧ ii = .int .i64 k ∧ nn = .int .i64 n ∧ 0 ≤ n ∧ n ≤ k ∧ Hid (Taking (feet g (.slice (some ⟨pb, 0, none⟩) f.parts.length cp) ov tv av) w wr g C { f with parts := f.parts.set i y } ⟨(i : Int), key, at_, val⟩ ws k n w.heap.size (.slice (some ⟨pb, 0, none⟩) f.parts.length cp) ov' tv av (.slice ba ws.length bc)))
    (fun _ ii _ => ws.length - (intOf ii).toNat)
  case atStart => exact ⟨0, 0, ov, Nat.zero_le _, rfl, rfl, by omega, by omega, T4⟩
  case round =>
    obtain ⟨k, n, ov', hk, rfl, rfl, hn0, hnk, HT⟩ := hrel
    clear T4
    obtain ⟨c0, c1, c2, c3, c4, c5, -, c7, c8, -, -⟩ := HT.out.ref.cells
    simp only at c7
    have hgl := lt_of_block HT.out.ref.obj
    have f8 := HT.out.ref.frozen 8
    have k0 := cell_of_row wr w.heap.size 0 _ _ _ HT.out.box
    have k1 := cell_of_row wr w.heap.size 1 _ _ _ HT.out.box
    have k2 := cell_of_row wr w.heap.size 2 _ _ _ HT.out.box
    have k3 := cell_of_row wr w.heap.size 3 _ _ _ HT.out.box
    simp at k0 k1 k2 k3
    by_cases hlt2 : k < ws.length
    · obtain ⟨b, hb⟩ : ∃ b, ws[k]? = some b := ⟨_, List.getElem?_eq_getElem hlt2⟩
      have HBk := hideP hb
      obtain ⟨bb, cpb, ev, -, hbb, e0⟩ := int_at HT.out.row hb
      simp only [Value.slice.injEq] at ev
      obtain ⟨rfl, -, rfl⟩ := ev
      obtain ⟨-, w1, w2', w3'⟩ := HWB.out b (List.mem_of_getElem? hb)
      have i3 : (0 : Int) ≤ (k : Int) := by omega
      have i4 : (k : Int) < (ws.length : Int) := by omega
      clear hb
      by_cases hov : f.now < b + C.size
      · go_wp2_with fail
        go_quiet (fail)
        have HTq := hideP (HT.out.same (drawn_below nq))
        have hbq := drawn_below (w := wr) nq
        have q0 := keepAt hbq hgl c0
        have q1 := keepAt hbq hgl c1
        have q2 := keepAt hbq hgl c2
        have q3 := keepAt hbq hgl c3
        have q4 := keepAt hbq hgl c4
        have q5 := keepAt hbq hgl c5
        have q8 := keepAt hbq hgl c8
        have l0 := keepAt hbq (lt_of_block HT.out.box) k0
        have l1 := keepAt hbq (lt_of_block HT.out.box) k1
        have l2 := keepAt hbq (lt_of_block HT.out.box) k2
        have l3 := keepAt hbq (lt_of_block HT.out.box) k3
        have l4 := keepAt hbq hbb e0
        have f8q : (wr.drewN nq).frozen? ⟨g, 8, none⟩ = false := f8
        have hgq : g < (wr.drewN nq).heap.size := hgl
        have hng : some g ≠ ov'.ownBlock := fun h => HT.out.ref.far g (.inr (.inl h.symm)) rfl
        have HNG := hideP hng
        have hlen : (M.countAll C.size C.fold f.now key val (ws.take k) f.opn).length ≤ 100000000 := by
          have h1 := countAll_len (size := C.size) (fold := C.fold) (now := f.now) (v := val) (key := key) (ws.take k) f.opn
          have h2 : (ws.take k).length ≤ ws.length := List.length_take_le' _ _
          omega
        have HLEN := hideP hlen
        clear hlen hng hbq c0 c1 c2 c3 c4 c5 c7 c8 k0 k1 k2 k3 e0 f8 HT
        generalize wr.drewN nq = wq at *
        have f0 := HC.out.f0
        have f3 := HC.out.f3
        go_wp2_with fail
        go_cut [] (fun wx => ∃ ov2 : Value, Hid (Taking (feet g (.slice (some ⟨pb, 0, none⟩) f.parts.length cp) ov tv av) w wx g C { f with parts := f.parts.set i y } ⟨(i : Int), key, at_, val⟩ ws (k + 1) (n + 1) w.heap.size (.slice (some ⟨pb, 0, none⟩) f.parts.length cp) ov2 tv av (.slice (some ⟨bb, 0, none⟩) ws.length bc)))
        case first =>
          go_region_with (go_at_call 40; refine (rcount_any C.size C.slide C.bound C.idle C.parts C.fold b ⟨(i : Int), key, at_, val⟩ _ 0 _ _ (by exact HTq.out.ref.opn) HLEN.out (Nat.zero_le _) f0 f3 (by omega) (by omega)).mono ?_; rintro r w5 ⟨v5, rfl, hr5, hg5⟩; obtain ⟨va, vc, rfl⟩ := hr5.slice; have d8 := (hg5.grown.cell_far ⟨g, 8, none⟩ hgq HNG.out).trans q8; have d9 := (hg5.grown.frozen_far ⟨g, 8, none⟩ hgq HNG.out).trans f8q)
          all_goals
            go_wp2_with fail
            go_meet
            exact ⟨_, hideP (HTq.out.hit HBk.out hov hr5 (hg5.trans_left drew_below))⟩
        case rest =>
          obtain ⟨ov2, HT2⟩ := hcut
          go_wp2
          go_roundw
          case rel => exact ⟨k + 1, n + 1, ov2, by omega, by go_num, rfl, by omega, by omega, HT2⟩
          case measure => simp [intOf]; omega
      · have HTq := hideP (HT.out.miss HBk.out hov (w1 := wr) (Below.refl _ _))
        go_wp2_with fail
        go_quiet (fail)
        have HTr := hideP (HTq.out.same (drawn_below nq))
        go_wp2
        go_roundw
        case rel => exact ⟨k + 1, n, ov', by omega, by go_num, rfl, by omega, by omega, HTr⟩
        case measure => simp [intOf]; omega
    · have ek : k = ws.length := by omega
      subst ek
      have hcnt := HT.out.cnt
      rw [List.take_length] at hcnt
      simp only at hcnt
      have HCNT := hideP hcnt
      clear hcnt
      have HREF := HT.out.ref
      rw [List.take_length] at HREF
      have hlen : (M.countAll C.size C.fold f.now key val ws f.opn).length ≤ 100000000 := by
        have h1 := countAll_len (size := C.size) (fold := C.fold) (now := f.now) (v := val) (key := key) ws f.opn
        omega
      have HLEN := hideP hlen
      have HTL := hideP (⟨HREF, HT.out.box, HT.out.far, HT.out.touch, HT.out.feet⟩ : Tail (feet g (.slice (some ⟨pb, 0, none⟩) f.parts.length cp) ov tv av) w wr g C { f with parts := f.parts.set i y, opn := M.countAll C.size C.fold f.now key val ws f.opn } ⟨(i : Int), key, at_, val⟩ w.heap.size (.slice (some ⟨pb, 0, none⟩) f.parts.length cp) ov' tv av)
      have hav := hideP HT.out.ref.after
      have c10' := HT.out.ref.cells.2.2.2.2.2.2.2.2.2.2
      have f10 := HT.out.ref.frozen 10
      have hna : some g ≠ av.ownBlock := fun h => HT.out.ref.far g (.inr (.inr (.inr h.symm))) rfl
      have HNA := hideP hna
      clear HREF hlen HT c0 c1 c2 c3 c4 c5 c7 c8 f8 hna
      obtain ⟨i0, hi0, hz0, hz1, hz2⟩ := info_parts Tryz.infoEv
      go_upto_if 78 with fail
      go_cut [] (fun wx => ∃ av2 : Value, Hid (Tail (feet g (.slice (some ⟨pb, 0, none⟩) f.parts.length cp) ov tv av) w wx g C { f with parts := f.parts.set i y, opn := M.countAll C.size C.fold f.now key val ws f.opn, after := if M.isLate C.size f.now ws = true then f.after ++ [⟨(i : Int), key, at_, val⟩] else f.after } ⟨(i : Int), key, at_, val⟩ w.heap.size (.slice (some ⟨pb, 0, none⟩) f.parts.length cp) ov' tv av2))
      case first =>
        cases hl : M.isLate C.size f.now ws
        · have hn1 : (n == 0) = false := by
            have : ¬ n = 0 := fun h => by
              have := late_cnt.2 (show (ws.filter fun b => decide (f.now < b + C.size)).length = 0 by have := HCNT.out; omega)
              rw [hl] at this
              simp at this
            simpa using this
          go_wp2_with fail
          go_meet
          exact ⟨av, by rw [hl]; exact HTL⟩
        · have hn1 : (n == 0) = true := by
            have := late_cnt.1 hl
            have : n = 0 := by have := HCNT.out; omega
            simpa using this
          go_wp2_with fail
          go_region_law ((refine step_append_lies _ (by rfl) _ _ _ (by rfl) 0 90 i0 _ 4 40 Tryz.underlying39 hi0 hz0 hz1 hz2 rfl (by omega) av _ _ (by rfl) ((World.ownsRow.alloc hav.out _).drew) ⟨wr.heap.size, 0, none⟩ 1 1 (evC ⟨(i : Int), key, at_, val⟩) (by rfl) (by rfl) (World.news_of_block (cs := #[.int .i64 (i : Int), .string key, .int .i64 at_, .int .i64 val]) (t := 90) (fr := (0, 0)) (heap_alloc_new wr _)) (evC_one _) (by omega) (by unfold maxLen; omega) (by omega) (by simp) (wr.heap.size + 1) (by simp) ?_; intro gg cp' w5 hown5 hg5 hat5 hlt5; have d9 : w5.cell? ⟨g, 10, none⟩ = some av := (hg5.cell_far ⟨g, 10, none⟩ (by simp; omega) HNA.out).trans (keepAt ((Below.refl _ wr).alloc (Nat.le_refl _) _) hgl c10'); have d10 : w5.frozen? ⟨g, 10, none⟩ = false := (hg5.frozen_far ⟨g, 10, none⟩ (by simp; omega) HNA.out).trans ((((Below.refl _ wr).alloc (Nat.le_refl _) _).frozen (p := ⟨g, 10, none⟩) hgl).trans f10)))
          all_goals
            have hr5 : RowIs evC w5 0 90 4 (.slice (some ⟨gg, 0, none⟩) (f.after.length + 1) cp') (f.after ++ [⟨(i : Int), key, at_, val⟩]) := by
              unfold RowIs
              simpa using hown5
            have hg6 : Grows wr w5 av (.slice (some ⟨gg, 0, none⟩) (f.after.length + 1) cp') := ⟨⟨hg5.os, hg5.tape, hg5.output, Nat.le_trans (by simp) hg5.size, fun b hb hne => (hg5.block b (by simp; omega) hne).trans (Below.heap_alloc wr _ b hb)⟩, fun b hb => by
              simp only [Value.ownBlock, Option.some.injEq] at hb
              subst hb
              exact hat5.imp id (fun h => by omega)⟩
            have HL5 := hideP (HTL.out.late hr5 hg6)
            clear hr5 hg6 hown5 hg5 hat5
            go_wp2_with fail
            go_meet
            exact ⟨_, by rw [hl]; exact HL5⟩
      case rest =>
        obtain ⟨av2, HT5⟩ := hcut
        have hpl : (f.parts.set i y).length = f.parts.length := List.length_set
        have hyi : (f.parts.set i y)[i]? = some y := List.getElem?_set_self hin
        have c6 := HT5.out.ref.cells.2.2.2.2.2.2.1
        obtain ⟨pb', cp', ev, -, hpb, e0, e1, e2, e3, e4⟩ := pt_at HT5.out.ref.parts hyi
        simp only [Value.slice.injEq, Option.some.injEq, Addr.mk.injEq, and_true] at ev
        obtain ⟨rfl, -, rfl⟩ := ev
        have hgl5 := lt_of_block HT5.out.ref.obj
        have hfr : ∀ j, wc.frozen? ⟨pb, j, none⟩ = false := fun j => HT5.out.ref.parts.frozen j
        have k0 := cell_of_row wc w.heap.size 0 _ _ _ HT5.out.box
        have k2 := cell_of_row wc w.heap.size 2 _ _ _ HT5.out.box
        simp at k0 k2
        have heb := lt_of_block HT5.out.box
        have HYI := hideP hyi
        clear hpl hyi
        go_wp2_with fail
        go_region
        generalize hw6 : (wc.alloc (.cells #[.bool y.any, .int .i64 y.most, .bool y.ended, .bool y.idle, .int .i64 y.silent] 117)).drew = w6
        have hb6 : Below wc.heap.size wc w6 := by rw [← hw6]; exact ((Below.refl _ _).alloc (Nat.le_refl _) _).drew
        have H6 := hideP (HT5.out.same hb6)
        have p0 : w6.cell? ⟨wc.heap.size, 0, none⟩ = some (.bool y.any) := by rw [← hw6]; exact World.cell?_alloc_new ..
        have p1 : w6.cell? ⟨wc.heap.size, 1, none⟩ = some (.int .i64 y.most) := by rw [← hw6]; exact World.cell?_alloc_new ..
        have d0 := keepAt hb6 hpb e0
        have d1 := keepAt hb6 hpb e1
        have d6 := keepAt hb6 hgl5 c6
        have l0 := keepAt hb6 heb k0
        have l2 := keepAt hb6 heb k2
        have hfr6 : ∀ j, w6.frozen? ⟨pb, j, none⟩ = false := fun j => H6.out.ref.parts.frozen j
        have hb6z := hb6.size
        have hw6z : wc.heap.size < w6.heap.size := by rw [← hw6]; simp
        have hpb6 : pb < w6.heap.size := by omega
        have hgl6 : g < w6.heap.size := by omega
        have heb6 : w.heap.size < w6.heap.size := by omega
        have hgp : ¬ pb = g := H6.out.ref.far pb (.inl rfl)
        have hep : ¬ pb = w.heap.size := fun h => H6.out.far (.inr (.inl (by simp only [Value.ownBlock]; rw [h])))
        have s6 : (w6.setCell ⟨pb, i * 5 + 1, none⟩ (.int .i64 at_)).cell? ⟨g, 6, none⟩ = some (.slice (some ⟨pb, 0, none⟩) f.parts.length cp) := (World.cell?_setCell_other _ _ _ _ (fun h => hgp (Addr.mk.inj h).1)).trans d6
        have s0 : (w6.setCell ⟨pb, i * 5 + 1, none⟩ (.int .i64 at_)).cell? ⟨w.heap.size, 0, none⟩ = some (.int .i64 (i : Int)) := (World.cell?_setCell_other _ _ _ _ (fun h => hep (Addr.mk.inj h).1)).trans l0
        have s1 : (w6.setCell ⟨pb, i * 5 + 1, none⟩ (.int .i64 at_)).cell? ⟨pb, i * 5, none⟩ = some (.bool y.any) := (World.cell?_setCell_other _ _ _ _ (fun h => by have h2 := (Addr.mk.inj h).2.1; omega)).trans d0
        have HMY : Hid (-9223372036854775808 ≤ y.most ∧ y.most ≤ 9223372036854775807) := by
          show _ ∧ _
          rw [HY.out]
          exact HM.out x (List.mem_of_getElem? HX.out)
        clear hw6 hb6 e0 e1 e2 e3 e4 c6 k0 k2 hfr hpb hgl5 heb
        cases hany : y.any
        · have HFIN := hideP ((((H6.out.part (by simp) (j := 1) (y := { y with most := at_ }) (u := .int .i64 at_) HYI.out (by omega) rfl).part (by simp) (i := i) (j := 0) (x := { y with most := at_ }) (y := { y with most := at_, any := true }) (u := .bool true) (by rw [List.getElem?_set_self (by simpa using hin)]) (by omega) rfl).same drew_below).same drew_below)
          have HEQ : Hid (M.moveF ltK C.bound { f with parts := ((f.parts.set i y).set i { y with most := at_ }).set i { y with most := at_, any := true }, opn := M.countAll C.size C.fold f.now key val ws f.opn, after := if M.isLate C.size f.now ws = true then f.after ++ [⟨(i : Int), key, at_, val⟩] else f.after } = M.takeF ltK C.size C.fold C.bound C.ws ⟨(i : Int), key, at_, val⟩ f) := by
            show _ = _
            unfold M.takeF
            simp only [← HW.out]
            rw [show (Int.toNat (i : Int)) = i from Int.toNat_natCast i, modify_set _ HX.out]
            simp only [List.set_set]
            rw [show M.takeP at_ x = { y with most := at_, any := true } from by
              have h1 := hany
              have h2 := HY.out
              rw [h2] at h1 ⊢
              simp only at h1
              simp [M.takeP, h1]]
          have HMO : Hid (mostOk (((f.parts.set i y).set i { y with most := at_ }).set i { y with most := at_, any := true })) := mostOk_set (mostOk_set (mostOk_set HM.out HMY.out.1 HMY.out.2) ht1 ht2) ht1 ht2
          go_wp2_with fail
          go_region
          go_wp2_with fail
          go_region
          go_wp2_with fail
          refine (rmove_any g C _ _ _ _ _ _ HFIN.out.ref HC.out.b0 HC.out.b1 HMO.out (by simpa using hl8) HLEN.out hn2).mono ?_
          rintro r w9 ⟨rfl, hto⟩
          go_wp2
          go_end0
          refine ⟨rfl, ?_⟩
          have hfin := RefTo.next HFIN.out.touch HFIN.out.feet hto
          rw [HEQ.out] at hfin
          exact hfin
        · by_cases hmost : y.most < at_
          · have HFIN := hideP ((((H6.out.part (by simp) (j := 1) (y := { y with most := at_ }) (u := .int .i64 at_) HYI.out (by omega) rfl).part (by simp) (i := i) (j := 0) (x := { y with most := at_ }) (y := { y with most := at_, any := true }) (u := .bool true) (by rw [List.getElem?_set_self (by simpa using hin)]) (by omega) rfl).same drew_below).same drew_below)
            have HEQ : Hid (M.moveF ltK C.bound { f with parts := ((f.parts.set i y).set i { y with most := at_ }).set i { y with most := at_, any := true }, opn := M.countAll C.size C.fold f.now key val ws f.opn, after := if M.isLate C.size f.now ws = true then f.after ++ [⟨(i : Int), key, at_, val⟩] else f.after } = M.takeF ltK C.size C.fold C.bound C.ws ⟨(i : Int), key, at_, val⟩ f) := by
              show _ = _
              unfold M.takeF
              simp only [← HW.out]
              rw [show (Int.toNat (i : Int)) = i from Int.toNat_natCast i, modify_set _ HX.out]
              simp only [List.set_set]
              rw [show M.takeP at_ x = { y with most := at_, any := true } from by
                have h1 := hany
                have h2 := HY.out
                rw [h2] at h1 ⊢
                simp only at h1
                have h3 : x.most < at_ := by have := hmost; rw [h2] at this; exact this
                simp [M.takeP, h3]]
            have HMO : Hid (mostOk (((f.parts.set i y).set i { y with most := at_ }).set i { y with most := at_, any := true })) := mostOk_set (mostOk_set (mostOk_set HM.out HMY.out.1 HMY.out.2) ht1 ht2) ht1 ht2
            go_wp2_with fail
            go_region
            go_wp2_with fail
            go_region
            go_wp2_with fail
            refine (rmove_any g C _ _ _ _ _ _ HFIN.out.ref HC.out.b0 HC.out.b1 HMO.out (by simpa using hl8) HLEN.out hn2).mono ?_
            rintro r w9 ⟨rfl, hto⟩
            go_wp2
            go_end0
            refine ⟨rfl, ?_⟩
            have hfin := RefTo.next HFIN.out.touch HFIN.out.feet hto
            rw [HEQ.out] at hfin
            exact hfin
          · have HFIN := hideP ((H6.out.part (by simp) (j := 0) (y := { y with any := true }) (u := .bool true) HYI.out (by omega) rfl).same drew_below)
            have HEQ : Hid (M.moveF ltK C.bound { f with parts := (f.parts.set i y).set i { y with any := true }, opn := M.countAll C.size C.fold f.now key val ws f.opn, after := if M.isLate C.size f.now ws = true then f.after ++ [⟨(i : Int), key, at_, val⟩] else f.after } = M.takeF ltK C.size C.fold C.bound C.ws ⟨(i : Int), key, at_, val⟩ f) := by
              show _ = _
              unfold M.takeF
              simp only [← HW.out]
              rw [show (Int.toNat (i : Int)) = i from Int.toNat_natCast i, modify_set _ HX.out]
              simp only [List.set_set]
              rw [show M.takeP at_ x = { y with any := true } from by
                have h1 := hany
                have h2 := HY.out
                rw [h2] at h1 ⊢
                simp only at h1
                have h3 : ¬ x.most < at_ := by have := hmost; rw [h2] at this; simp only at this; omega
                simp [M.takeP, h1, h3]]
            have HMO : Hid (mostOk ((f.parts.set i y).set i { y with any := true })) := mostOk_set (mostOk_set HM.out HMY.out.1 HMY.out.2) HMY.out.1 HMY.out.2
            go_wp2_with fail
            go_region
            go_wp2_with fail
            refine (rmove_any g C _ _ _ _ _ _ HFIN.out.ref HC.out.b0 HC.out.b1 HMO.out (by simpa using hl8) HLEN.out hn2).mono ?_
            rintro r w9 ⟨rfl, hto⟩
            go_wp2
            go_end0
            refine ⟨rfl, ?_⟩
            have hfin := RefTo.next HFIN.out.touch HFIN.out.feet hto
            rw [HEQ.out] at hfin
            exact hfin
end Go.Proofs.YtnnoaolceeendaaGreatDoor
