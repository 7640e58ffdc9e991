import Derived.Test.YtnnoaolceeendaaGreatDoorRefK
namespace Go.Proofs.YtnnoaolceeendaaGreatDoor
open Go.ChangeShapes Go.WideShapes Go.ChangeAt Go.RowKit

/-! ### Scripts: what the document's calls come to -/
/-- How much room there is: so many events may still come. -/
structure Room (f : M.Fl ByteArray) (N : Nat) : Prop where
  opn : f.opn.length + f.told.length + 11 * N ≤ 50000000
  after : f.after.length + N ≤ 50000000

/-- What holds of every flow on the way. -/
structure FlOk (C : Cf) (f : M.Fl ByteArray) : Prop where
  most : mostOk f.parts
  len : f.parts.length ≤ 8

theorem tell_len (m : Int) (f : M.Fl ByteArray) : (M.tellF ltK m f).opn.length + (M.tellF ltK m f).told.length = f.opn.length + f.told.length := by
  have key : ∀ l : List (M.Pn ByteArray), (l.filter fun p => decide (m < p.stop)).length + (l.filter fun p => decide (p.stop ≤ m)).length = l.length := by
    intro l
    induction l with
    | nil => rfl
    | cons p l ih =>
      by_cases h : m < p.stop
      · have h2 : ¬ p.stop ≤ m := by omega
        simp [h, h2]; omega
      · have h2 : p.stop ≤ m := by omega
        simp [h, h2]; omega
  have := key f.opn
  simp only [M.tellF, List.length_append, sortP_len]
  omega

theorem Room.take {f : M.Fl ByteArray} {N : Nat} (h : Room f (N + 1)) (C : Cf) (e : M.Ev ByteArray) : Room (M.takeF ltK C.size C.fold C.bound C.ws e f) N := by
  have h1 := tell_len (M.markOf C.bound f.now (f.parts.modify e.part.toNat (M.takeP e.at_))) { f with parts := f.parts.modify e.part.toNat (M.takeP e.at_), opn := M.countAll C.size C.fold f.now e.key e.val (C.ws e.at_) f.opn, after := if M.isLate C.size f.now (C.ws e.at_) = true then f.after ++ [e] else f.after }
  have h2 := countAll_len (size := C.size) (fold := C.fold) (now := f.now) (v := e.val) (key := e.key) (C.ws e.at_) f.opn
  have h3 : (C.ws e.at_).length ≤ 11 := wins_len _ _ _
  have ho := h.opn
  have ha := h.after
  refine ⟨?_, ?_⟩
  · show (M.tellF ltK _ _).opn.length + (M.tellF ltK _ _).told.length + 11 * N ≤ 50000000
    rw [h1]
    simp only at h2 ⊢
    omega
  · show (if M.isLate C.size f.now (C.ws e.at_) = true then f.after ++ [e] else f.after).length + N ≤ 50000000
    split
    · simp; omega
    · omega

theorem Room.move {f g : M.Fl ByteArray} {N : Nat} (h : Room f N) (C : Cf) (hg : g.opn = f.opn ∧ g.told = f.told ∧ g.after = f.after) : Room (M.moveF ltK C.bound g) N := by
  have h1 := tell_len (M.markOf C.bound g.now g.parts) g
  have ho := h.opn
  have ha := h.after
  refine ⟨?_, ?_⟩
  · show (M.tellF ltK _ _).opn.length + (M.tellF ltK _ _).told.length + 11 * N ≤ 50000000
    rw [h1, hg.1, hg.2.1]
    omega
  · show g.after.length + N ≤ 50000000
    rw [hg.2.2]
    omega

theorem FlOk.take {C : Cf} {f : M.Fl ByteArray} (h : FlOk C f) (e : M.Ev ByteArray) (ht1 : -9223372036854775808 ≤ e.at_) (ht2 : e.at_ ≤ 9223372036854775807) : FlOk C (M.takeF ltK C.size C.fold C.bound C.ws e f) := by
  have hp : (M.takeF ltK C.size C.fold C.bound C.ws e f).parts = f.parts.modify e.part.toNat (M.takeP e.at_) := rfl
  refine ⟨?_, by rw [hp, List.length_modify]; exact h.len⟩
  rw [hp]
  intro p hp'
  obtain ⟨j, hj⟩ := List.mem_iff_getElem?.1 hp'
  rw [List.getElem?_modify] at hj
  cases hx : f.parts[j]? with
  | none => simp [hx] at hj
  | some x =>
    have hm := h.most x (List.mem_of_getElem? hx)
    split at hj
    · simp only [hx, Option.map_eq_map, Option.map_some, Option.some.injEq] at hj
      subst hj
      simp only [M.takeP]
      split
      · exact ⟨ht1, ht2⟩
      · exact hm
    · simp only [hx, Option.map_eq_map, Option.map_some, Option.some.injEq] at hj
      subst hj
      exact hm

/-- Put: how many were taken, why the next one was not, and the flow behind it. -/
def putR (C : Cf) : List (M.Ev ByteArray) → M.Fl ByteArray → Nat × Int × M.Fl ByteArray
  | [], f => (0, 0, f)
  | e :: es, f =>
    if e.part < 0 ∨ (f.parts.length : Int) ≤ e.part then (0, 2, f)
    else if (f.parts.getD e.part.toNat M.newP).ended = true then (0, 3, f)
    else ((putR C es (M.takeF ltK C.size C.fold C.bound C.ws e f)).1 + 1, (putR C es (M.takeF ltK C.size C.fold C.bound C.ws e f)).2)

/-- The flow behind the first k events, all of them taken. -/
def putTo (C : Cf) (es : List (M.Ev ByteArray)) (k : Nat) (f : M.Fl ByteArray) : M.Fl ByteArray := (es.take k).foldl (fun f e => M.takeF ltK C.size C.fold C.bound C.ws e f) f

/-- May the event be taken? -/
def canTake (f : M.Fl ByteArray) (e : M.Ev ByteArray) : Prop := ¬ (e.part < 0 ∨ (f.parts.length : Int) ≤ e.part) ∧ (f.parts.getD e.part.toNat M.newP).ended = false

theorem putTo_succ (C : Cf) {es : List (M.Ev ByteArray)} {k : Nat} {e : M.Ev ByteArray} (h : es[k]? = some e) (f : M.Fl ByteArray) : putTo C es (k + 1) f = M.takeF ltK C.size C.fold C.bound C.ws e (putTo C es k f) := by
  unfold putTo
  rw [take_snoc' h, List.foldl_append]
  rfl

theorem putR_all (C : Cf) : ∀ (es : List (M.Ev ByteArray)) (f : M.Fl ByteArray) (k : Nat), (∀ j e, j < k → es[j]? = some e → canTake (putTo C es j f) e) → k ≤ es.length →
    putR C es f = (k + (putR C (es.drop k) (putTo C es k f)).1, (putR C (es.drop k) (putTo C es k f)).2)
  | es, f, 0, _, _ => by simp [putTo]
  | [], f, k + 1, _, h => by simp at h
  | e :: es, f, k + 1, hc, h => by
    have h0 := hc 0 e (by omega) rfl
    have h0' : canTake f e := h0
    rw [putR, if_neg h0'.1, if_neg (by rw [h0'.2]; simp)]
    have ih := putR_all C es (M.takeF ltK C.size C.fold C.bound C.ws e f) k (fun j e' hj he => by
      have := hc (j + 1) e' (by omega) (by simpa using he)
      exact this) (by simpa using h)
    rw [ih]
    have e1 : putTo C (e :: es) (k + 1) f = putTo C es k (M.takeF ltK C.size C.fold C.bound C.ws e f) := rfl
    rw [List.drop_succ_cons, e1]
    congr 1
    simp only
    omega
end Go.Proofs.YtnnoaolceeendaaGreatDoor
namespace Go.Proofs.YtnnoaolceeendaaGreatDoor
open Go.ChangeShapes Go.WideShapes Go.ChangeAt Go.RowKit

/-- The block that a slice leads into that is not empty. -/
def heldIn : Value → Option Nat
  | .slice (some a) (_ + 1) _ => some a.block
  | _ => none
theorem heldIn_own {v : Value} {b : Nat} (h : heldIn v = some b) : v.ownBlock = some b := by
  unfold heldIn at h
  split at h
  · exact h
  · cases h
theorem heldIn_mk {a : Addr} {n cap : Nat} (h : 0 < n) : heldIn (.slice (some a) n cap) = some a.block := by
  cases n with
  | zero => omega
  | succ n => rfl
theorem heldIn_at {α : Type} {es : List α} {k : Nat} {e : α} (h : es[k]? = some e) {a : Addr} {cap : Nat} : heldIn (.slice (some a) es.length cap) = some a.block :=
  heldIn_mk (by have := (List.getElem?_eq_some_iff.1 h).1; omega)

/-- A list of events lies in memory, wherever. -/
structure EvsAt (w : World) (v : Value) (es : List (M.Ev ByteArray)) : Prop where
  form : ∃ a cap, v = .slice a es.length cap
  lies : ∀ k e, es[k]? = some e → ∃ b off cap, v = .slice (some ⟨b, off, none⟩) es.length cap ∧ b < w.heap.size ∧ w.cell? ⟨b, off + k * 4, none⟩ = some (.int .i64 e.part) ∧ w.cell? ⟨b, off + k * 4 + 1, none⟩ = some (.string e.key) ∧ w.cell? ⟨b, off + k * 4 + 2, none⟩ = some (.int .i64 e.at_) ∧ w.cell? ⟨b, off + k * 4 + 3, none⟩ = some (.int .i64 e.val)

theorem EvsAt.touch {S : Nat → Prop} {w w' : World} {v : Value} {es : List (M.Ev ByteArray)} (h : EvsAt w v es) (ht : Touch S w w') (hn : ∀ b, heldIn v = some b → ¬ S b) : EvsAt w' v es :=
  ⟨h.form, fun k e he => by
    obtain ⟨b, off, cap, hv, hb, h0, h1, h2, h3⟩ := h.lies k e he
    have hs := hn b (by rw [hv]; exact heldIn_at he)
    exact ⟨b, off, cap, hv, Nat.lt_of_lt_of_le hb ht.size, ht.cell hb hs h0, ht.cell hb hs h1, ht.cell hb hs h2, ht.cell hb hs h3⟩⟩

/-- The key is a text, the value a number of 64 bits. -/
def plainEv (e : M.Ev ByteArray) : Prop := e.key.size ≤ 1048576 ∧ -9223372036854775808 ≤ e.val ∧ e.val ≤ 9223372036854775807
def timesOk (es : List (M.Ev ByteArray)) : Prop := ∀ e ∈ es, -9223372036854775808 ≤ e.at_ ∧ e.at_ ≤ 9223372036854775807 ∧ plainEv e

theorem putTo_zero (C : Cf) (es : List (M.Ev ByteArray)) (f : M.Fl ByteArray) : putTo C es 0 f = f := rfl

theorem RefTo.drawn {S : Nat → Prop} {w w1 w2 : World} {g : Nat} {C : Cf} {f : M.Fl ByteArray} (h : RefTo S w w1 g C f) (e : w2.heap = w1.heap := by rfl) (o : w2.os = w1.os := by rfl) (t : w2.tape = w1.tape := by rfl) (p : w2.output = w1.output := by rfl) : RefTo S w w2 g C f := by
  obtain ⟨pv, ov, tv, av, hr, ht, hf⟩ := h
  exact ⟨pv, ov, tv, av, hr.drawn e, ⟨o.trans ht.os, t.trans ht.tape, p.trans ht.output, by rw [e]; exact ht.size, fun k hk hn => by rw [e]; exact ht.block k hk hn⟩, hf⟩

set_option maxRecDepth 100000 in
set_option maxHeartbeats 4000000 in
theorem rPut_any (g : Nat) (C : Cf) (hC : CfOk C) (f : M.Fl ByteArray) (es : List (M.Ev ByteArray)) (v pv ov tv av : Value) (w : World) (hr : RefAt w g C f pv ov tv av) (he : EvsAt w v es) (hn : ∀ b, heldIn v = some b → ¬ feet g pv ov tv av b) (hts : timesOk es) (hroom : Room f es.length) (hok : FlOk C f) :
    Calls Tryz.prog 34 #[.pointer (some ⟨g, 0, none⟩), v] w fun r w' => r = .returned (.tuple #[.int .i64 (putR C es f).1, .int .i64 (putR C es f).2.1]) ∧ RefTo (feet g pv ov tv av) w w' g C (putR C es f).2.2 := by
  obtain ⟨a0, cap, rfl⟩ := he.form
  have hlen : es.length ≤ 50000000 := by have := hroom.after; omega
  have HE := hideP he
  have HN := hideP hn
  have HR := hideP hr
  have HC := hideP hC
  have HTS := hideP hts
  clear he hn hC hts hr
  go_enter Tryz.func34, Tryz.ntmps34
  go_wp2
  go_loopw [6] (fun ii wr => ∃ k : Nat, k ≤ es.length ∧ ii = .int .i64 k ∧ Hid (∀ j e, j < k → es[j]? = some e → canTake (putTo C es j f) e) ∧ Hid (RefTo (feet g pv ov tv av) w wr g C (putTo C es k f)) ∧ Hid (Room (putTo C es k f) (es.length - k)) ∧ Hid (FlOk C (putTo C es k f)))
    (fun ii _ => es.length - (intOf ii).toNat)
  case atStart => exact ⟨0, Nat.zero_le _, rfl, fun j e hj => by omega, HR.out.to, hroom, hok⟩
  case round =>
    obtain ⟨k, hk, rfl, HCT, HTO, HRM, HOK⟩ := hrel
    clear hroom hok
    by_cases hlt : k < es.length
    · obtain ⟨e, hx⟩ : ∃ e, es[k]? = some e := ⟨_, List.getElem?_eq_getElem hlt⟩
      obtain ⟨pv', ov', tv', av', R, T, hf⟩ := HTO.out
      obtain ⟨b, off, cp, ev, hb, m0, m1, m2, m3⟩ := (HE.out.touch T HN.out).lies k e hx
      simp only [Value.slice.injEq] at ev
      obtain ⟨rfl, -, rfl⟩ := ev
      have HX := hideP hx
      have HT := hideP T
      have HF := hideP hf
      have RR := hideP R
      have c6 := R.cells.2.2.2.2.2.2.1
      obtain ⟨pa, pc, epv⟩ := R.parts.slice
      subst epv
      have hgl := lt_of_block R.obj
      have hpl := HOK.out.len
      have i1 : (0 : Int) ≤ (k : Int) := by omega
      have i2 : (k : Int) < (es.length : Int) := by omega
      have htm := HTS.out e (List.mem_of_getElem? hx)
      obtain ⟨ht1, ht2, -⟩ := htm
      obtain ⟨q, hq⟩ : ∃ q, q = putTo C es k f := ⟨_, rfl⟩
      rw [← hq] at RR HRM HOK HTO HF R c6 hpl
      have HQ := hideP hq
      have hdrop : Hid (es.drop k = e :: es.drop (k + 1)) := by
        show _ = _
        have := List.getElem?_eq_some_iff.1 hx
        rw [List.drop_eq_getElem_cons this.1, this.2]
      have HPR := hideP (putR_all C es f k HCT.out hk)
      clear hx T hf R hq
      by_cases hp0 : e.part < 0
      · have hres : Hid (putR C es f = (k, 2, q)) := by
          show _ = _
          rw [HPR.out, hdrop.out, ← HQ.out, putR, if_pos (.inl hp0)]
          rfl
        go_wp2_with fail
        go_quiet (fail)
        go_wp2
        go_ret2
        exact ⟨by rw [hres.out]; rfl, by rw [hres.out]; exact HTO.out.drawn⟩
      · by_cases hpn : (q.parts.length : Int) ≤ e.part
        · have hres : Hid (putR C es f = (k, 2, q)) := by
            show _ = _
            rw [HPR.out, hdrop.out, ← HQ.out, putR, if_pos (.inr hpn)]
            rfl
          go_wp2_with fail
          go_quiet (fail)
          go_wp2
          go_ret2
          exact ⟨by rw [hres.out]; rfl, by rw [hres.out]; exact HTO.out.drawn⟩
        · obtain ⟨i, hi⟩ := Int.eq_ofNat_of_zero_le (show 0 ≤ e.part by omega)
          have hin : i < q.parts.length := by omega
          obtain ⟨ep, key, at_, val⟩ := e
          simp only at hi ht1 ht2 hp0 hpn m0 m1 m2 m3
          subst hi
          obtain ⟨x, hxp⟩ : ∃ x, q.parts[i]? = some x := ⟨_, List.getElem?_eq_getElem hin⟩
          obtain ⟨pb, cpb, ev, -, hpb, e0, e1, e2, e3, e4⟩ := pt_at RR.out.parts hxp
          simp only [Value.slice.injEq] at ev
          obtain ⟨rfl, -, rfl⟩ := ev
          have i3 : (0 : Int) ≤ (i : Int) := by omega
          have i4 : (i : Int) < (q.parts.length : Int) := by omega
          have HXP := hideP hxp
          have hget : Hid ((q.parts.getD i M.newP) = x) := by
            show _ = _
            rw [List.getD, HXP.out]
            rfl
          clear hxp e0 e1 e3 e4
          cases hen : x.ended
          · have hcan : Hid (∀ j e, j < k + 1 → es[j]? = some e → canTake (putTo C es j f) e) := fun j e' hj he' => by
              rcases Nat.lt_succ_iff_lt_or_eq.1 hj with h | h
              · exact HCT.out j e' h he'
              · subst h
                rw [HX.out] at he'
                cases he'
                rw [← HQ.out]
                exact ⟨by simp only; omega, by simp only [Int.toNat_natCast]; rw [hget.out]; exact hen⟩
            have HS := hideP (putTo_succ C HX.out f)
            have hro := HRM.out.opn
            have hra := HRM.out.after
            have hdk : es.length - k = (es.length - (k + 1)) + 1 := by omega
            have HRM2 : Hid (Room (M.takeF ltK C.size C.fold C.bound C.ws ⟨(i : Int), key, at_, val⟩ q) (es.length - (k + 1))) := by
              have h := HRM.out
              rw [hdk] at h
              exact h.take C _
            have HOK2 := hideP (HOK.out.take ⟨(i : Int), key, at_, val⟩ ht1 ht2)
            clear hdk
            go_wp2_with fail
            go_quiet (fail)
            go_wp2_with fail
            go_quiet (fail)
            go_wp2_with (go_at_call 55; refine (rtake_any g C HC.out q ⟨(i : Int), key, at_, val⟩ _ _ _ _ _ (by exact RR.out.drawn rfl) i rfl hin HOK.out.most HOK.out.len ht1 ht2 (by omega) (by omega) (by omega)).mono ?_; rintro r w5 ⟨rfl, hto5⟩)
            have hto6 := hideP (RefTo.next (HT.out.trans (Touch.of_below (S := fun _ => False) (drawn_below _)) (fun _ h => h.elim)) HF.out hto5)
            clear hto5
            go_roundw
            case rel => exact ⟨k + 1, by omega, by go_num, hcan, by rw [HS.out, ← HQ.out]; exact hto6, by rw [HS.out, ← HQ.out]; exact HRM2, by rw [HS.out, ← HQ.out]; exact HOK2⟩
            case measure => simp [intOf]; omega
          · have hres : Hid (putR C es f = (k, 3, q)) := by
              show _ = _
              rw [HPR.out, hdrop.out, ← HQ.out, putR, if_neg (by simp only; omega), if_pos (by simp only [Int.toNat_natCast]; rw [hget.out]; exact hen)]
              rfl
            go_wp2_with fail
            go_quiet (fail)
            go_wp2_with fail
            go_quiet (fail)
            go_wp2
            go_ret2
            exact ⟨by rw [hres.out]; rfl, by rw [hres.out]; exact HTO.out.drawn⟩
    · have ek : k = es.length := by omega
      subst ek
      have hres : Hid (putR C es f = (es.length, 0, putTo C es es.length f)) := by
        show _ = _
        rw [putR_all C es f es.length HCT.out (Nat.le_refl _), List.drop_length]
        simp [putR]
      go_wp2
      go_ret2
      exact ⟨by rw [hres.out]; rfl, by rw [hres.out]; exact HTO.out⟩
end Go.Proofs.YtnnoaolceeendaaGreatDoor
namespace Go.Proofs.YtnnoaolceeendaaGreatDoor
open Go.ChangeShapes Go.WideShapes Go.ChangeAt Go.RowKit

/-- A list of numbers lies in memory, wherever. -/
structure IntsAt (w : World) (v : Value) (es : List Int) : Prop where
  form : ∃ a cap, v = .slice a es.length cap
  lies : ∀ (k : Nat) (e : Int), es[k]? = some e → ∃ b off cap, v = .slice (some ⟨b, off, none⟩) es.length cap ∧ b < w.heap.size ∧ w.cell? ⟨b, off + k, none⟩ = some (.int .i64 e)

theorem IntsAt.touch {S : Nat → Prop} {w w' : World} {v : Value} {es : List Int} (h : IntsAt w v es) (ht : Touch S w w') (hn : ∀ b, heldIn v = some b → ¬ S b) : IntsAt w' v es :=
  ⟨h.form, fun k e he => by
    obtain ⟨b, off, cap, hv, hb, h0⟩ := h.lies k e he
    have hs := hn b (by rw [hv]; exact heldIn_at he)
    exact ⟨b, off, cap, hv, Nat.lt_of_lt_of_le hb ht.size, ht.cell hb hs h0⟩⟩

/-- End: how many ended, why the next one did not, and the flow behind it. -/
def endR (C : Cf) : List Int → M.Fl ByteArray → Nat × Int × M.Fl ByteArray
  | [], f => (0, 0, f)
  | e :: es, f =>
    if e < 0 ∨ (f.parts.length : Int) ≤ e then (0, 2, f)
    else if (f.parts.getD e.toNat M.newP).ended = true then (0, 3, f)
    else ((endR C es (M.endF ltK C.bound e.toNat f)).1 + 1, (endR C es (M.endF ltK C.bound e.toNat f)).2)

def endTo (C : Cf) (es : List Int) (k : Nat) (f : M.Fl ByteArray) : M.Fl ByteArray := (es.take k).foldl (fun f e => M.endF ltK C.bound e.toNat f) f

def canEnd (f : M.Fl ByteArray) (e : Int) : Prop := ¬ (e < 0 ∨ (f.parts.length : Int) ≤ e) ∧ (f.parts.getD e.toNat M.newP).ended = false

theorem endTo_succ (C : Cf) {es : List Int} {k : Nat} {e : Int} (h : es[k]? = some e) (f : M.Fl ByteArray) : endTo C es (k + 1) f = M.endF ltK C.bound e.toNat (endTo C es k f) := by
  unfold endTo
  rw [take_snoc' h, List.foldl_append]
  rfl

theorem endR_all (C : Cf) : ∀ (es : List Int) (f : M.Fl ByteArray) (k : Nat), (∀ (j : Nat) (e : Int), j < k → es[j]? = some e → canEnd (endTo C es j f) e) → k ≤ es.length →
    endR C es f = (k + (endR C (es.drop k) (endTo C es k f)).1, (endR C (es.drop k) (endTo C es k f)).2)
  | es, f, 0, _, _ => by simp [endTo]
  | [], f, k + 1, _, h => by simp at h
  | e :: es, f, k + 1, hc, h => by
    have h0 := hc 0 e (by omega) rfl
    have h0' : canEnd f e := h0
    rw [endR, if_neg h0'.1, if_neg (by rw [h0'.2]; simp)]
    have ih := endR_all C es (M.endF ltK C.bound e.toNat f) k (fun j e' hj he => by
      have := hc (j + 1) e' (by omega) (by simpa using he)
      exact this) (by simpa using h)
    rw [ih]
    have e1 : endTo C (e :: es) (k + 1) f = endTo C es k (M.endF ltK C.bound e.toNat f) := rfl
    rw [List.drop_succ_cons, e1]
    congr 1
    simp only
    omega

theorem FlOk.fin {C : Cf} {f : M.Fl ByteArray} (h : FlOk C f) (i : Nat) : FlOk C (M.endF ltK C.bound i f) := by
  have hp : (M.endF ltK C.bound i f).parts = f.parts.modify i (fun p => { p with ended := true }) := rfl
  refine ⟨?_, by rw [hp, List.length_modify]; exact h.len⟩
  rw [hp]
  intro p hp'
  obtain ⟨j, hj⟩ := List.mem_iff_getElem?.1 hp'
  rw [List.getElem?_modify] at hj
  cases hx : f.parts[j]? with
  | none => simp [hx] at hj
  | some x =>
    have hm := h.most x (List.mem_of_getElem? hx)
    split at hj
    · simp only [hx, Option.map_eq_map, Option.map_some, Option.some.injEq] at hj
      subst hj
      exact hm
    · simp only [hx, Option.map_eq_map, Option.map_some, Option.some.injEq] at hj
      subst hj
      exact hm

theorem Room.fin {f : M.Fl ByteArray} {N : Nat} (h : Room f N) (C : Cf) (i : Nat) : Room (M.endF ltK C.bound i f) N := h.move C ⟨rfl, rfl, rfl⟩

theorem Touch.drawn {S : Nat → Prop} {w w1 w2 : World} (h : Touch S w w1) (e : w2.heap = w1.heap := by rfl) (o : w2.os = w1.os := by rfl) (t : w2.tape = w1.tape := by rfl) (p : w2.output = w1.output := by rfl) : Touch S w w2 :=
  ⟨o.trans h.os, t.trans h.tape, p.trans h.output, by rw [e]; exact h.size, fun k hk hn => by rw [e]; exact h.block k hk hn⟩

set_option maxRecDepth 100000 in
set_option maxHeartbeats 4000000 in
theorem rEnd_any (g : Nat) (C : Cf) (hC : CfOk C) (f : M.Fl ByteArray) (es : List Int) (v pv ov tv av : Value) (w : World) (N : Nat) (hr : RefAt w g C f pv ov tv av) (he : IntsAt w v es) (hn : ∀ b, heldIn v = some b → ¬ feet g pv ov tv av b) (hlen : es.length ≤ 50000000) (hroom : Room f N) (hok : FlOk C f) :
    Calls Tryz.prog 37 #[.pointer (some ⟨g, 0, none⟩), v] w fun r w' => r = .returned (.tuple #[.int .i64 (endR C es f).1, .int .i64 (endR C es f).2.1]) ∧ RefTo (feet g pv ov tv av) w w' g C (endR C es f).2.2 := by
  obtain ⟨a0, cap, rfl⟩ := he.form
  have HE := hideP he
  have HN := hideP hn
  have HR := hideP hr
  have HC := hideP hC
  clear he hn hC hr
  go_enter Tryz.func37, Tryz.ntmps37
  go_wp2
  go_loopw [6] (fun ii wr => ∃ k : Nat, k ≤ es.length ∧ ii = .int .i64 k ∧ Hid (∀ (j : Nat) (e : Int), j < k → es[j]? = some e → canEnd (endTo C es j f) e) ∧ Hid (RefTo (feet g pv ov tv av) w wr g C (endTo C es k f)) ∧ Hid (Room (endTo C es k f) N) ∧ Hid (FlOk C (endTo C es k f)))
    (fun ii _ => es.length - (intOf ii).toNat)
  case atStart => exact ⟨0, Nat.zero_le _, rfl, fun j e hj => by omega, HR.out.to, hroom, hok⟩
  case round =>
    obtain ⟨k, hk, rfl, HCT, HTO, HRM, HOK⟩ := hrel
    clear hroom hok
    by_cases hlt : k < es.length
    · obtain ⟨e, hx⟩ : ∃ e, es[k]? = some e := ⟨_, List.getElem?_eq_getElem hlt⟩
      obtain ⟨pv', ov', tv', av', R, T, hf⟩ := HTO.out
      obtain ⟨b, off, cp, ev, hb, m0⟩ := (HE.out.touch T HN.out).lies k e hx
      simp only [Value.slice.injEq] at ev
      obtain ⟨rfl, -, rfl⟩ := ev
      have hbS : ¬ feet g pv' ov' tv' av' b := fun h => by
        rcases hf b h with h' | h'
        · exact HN.out b (heldIn_at hx) h'
        · obtain ⟨b2, off2, cp2, ev2, hb2, -⟩ := HE.out.lies k e hx
          simp only [Value.slice.injEq, Option.some.injEq, Addr.mk.injEq] at ev2
          omega
      have HBS := hideP hbS
      have HX := hideP hx
      have HT := hideP T
      have HF := hideP hf
      have RR := hideP R
      have c6 := R.cells.2.2.2.2.2.2.1
      obtain ⟨pa, pc, epv⟩ := R.parts.slice
      subst epv
      have hgl := lt_of_block R.obj
      have hpl := HOK.out.len
      have i1 : (0 : Int) ≤ (k : Int) := by omega
      have i2 : (k : Int) < (es.length : Int) := by omega
      obtain ⟨q, hq⟩ : ∃ q, q = endTo C es k f := ⟨_, rfl⟩
      rw [← hq] at RR HRM HOK HTO HF R c6 hpl HBS
      have HQ := hideP hq
      have hdrop : Hid (es.drop k = e :: es.drop (k + 1)) := by
        show _ = _
        have := List.getElem?_eq_some_iff.1 hx
        rw [List.drop_eq_getElem_cons this.1, this.2]
      have HPR := hideP (endR_all C es f k HCT.out hk)
      clear hx T hf R hq hbS
      by_cases hp0 : e < 0
      · have hres : Hid (endR C es f = (k, 2, q)) := by
          show _ = _
          rw [HPR.out, hdrop.out, ← HQ.out, endR, if_pos (.inl hp0)]
          rfl
        go_wp2_with fail
        go_quiet (fail)
        go_wp2
        go_ret2
        exact ⟨by rw [hres.out]; rfl, by rw [hres.out]; exact HTO.out.drawn⟩
      · by_cases hpn : (q.parts.length : Int) ≤ e
        · have hres : Hid (endR C es f = (k, 2, q)) := by
            show _ = _
            rw [HPR.out, hdrop.out, ← HQ.out, endR, if_pos (.inr hpn)]
            rfl
          go_wp2_with fail
          go_quiet (fail)
          go_wp2
          go_ret2
          exact ⟨by rw [hres.out]; rfl, by rw [hres.out]; exact HTO.out.drawn⟩
        · obtain ⟨i, hi⟩ := Int.eq_ofNat_of_zero_le (show 0 ≤ e by omega)
          subst hi
          have hin : i < q.parts.length := by omega
          obtain ⟨x, hxp⟩ : ∃ x, q.parts[i]? = some x := ⟨_, List.getElem?_eq_getElem hin⟩
          obtain ⟨pb, cpb, ev, -, hpb, e0, e1, e2, e3, e4⟩ := pt_at RR.out.parts hxp
          simp only [Value.slice.injEq] at ev
          obtain ⟨rfl, -, rfl⟩ := ev
          have i3 : (0 : Int) ≤ (i : Int) := by omega
          have i4 : (i : Int) < (q.parts.length : Int) := by omega
          have HXP := hideP hxp
          have hget : Hid ((q.parts.getD i M.newP) = x) := by
            show _ = _
            rw [List.getD, HXP.out]
            rfl
          have hgp : ¬ pb = g := RR.out.far pb (.inl rfl)
          have hbp : ¬ pb = b := fun h => HBS.out (.inr (.inl (by simp only [Value.ownBlock]; rw [h])))
          have hfr : ∀ j, wr.frozen? ⟨pb, j, none⟩ = false := fun j => RR.out.parts.frozen j
          clear hxp e0 e1 e3 e4
          cases hen : x.ended
          · have hcan : Hid (∀ (j : Nat) (e : Int), j < k + 1 → es[j]? = some e → canEnd (endTo C es j f) e) := fun j e' hj he' => by
              rcases Nat.lt_succ_iff_lt_or_eq.1 hj with h | h
              · exact HCT.out j e' h he'
              · subst h
                rw [HX.out] at he'
                cases he'
                rw [← HQ.out]
                exact ⟨by omega, by simp only [Int.toNat_natCast]; rw [hget.out]; exact hen⟩
            have HS := hideP (endTo_succ C HX.out f)
            have HRM2 := hideP (HRM.out.fin C i)
            have HOK2 := hideP (HOK.out.fin i)
            have hro := HRM.out.opn
            have HP2 := hideP (RR.out.setPart rfl (i := i) (j := 2) (y := { x with ended := true }) (u := .bool true) HXP.out (by omega) rfl)
            have HEQ : Hid (M.moveF ltK C.bound { q with parts := q.parts.set i { x with ended := true } } = M.endF ltK C.bound i q) := by
              show _ = _
              unfold M.endF
              rw [modify_set _ HXP.out]
            have HMO : Hid (mostOk (q.parts.set i { x with ended := true })) := mostOk_set HOK.out.most (HOK.out.most x (List.mem_of_getElem? HXP.out)).1 (HOK.out.most x (List.mem_of_getElem? HXP.out)).2
            go_wp2_with fail
            go_quiet (fail)
            go_wp2_with fail
            go_quiet (fail)
            go_wp2_with fail
            go_region
            go_wp2_with fail
            refine (rmove_any g C _ _ _ _ _ _ (by exact HP2.out.drawn rfl) HC.out.b0 HC.out.b1 HMO.out (by simpa using hpl) (by show q.opn.length ≤ _; omega) (by show q.told.length ≤ _; omega)).mono ?_
            rintro r w5 ⟨rfl, hto5⟩
            have ht2 : Touch (feet g pv ov tv av) w (wr.setCell ⟨pb, i * 5 + 2, none⟩ (.bool true)) := HT.out.trans (Touch.set (a := ⟨pb, i * 5 + 2, none⟩) (S := fun q => q = pb) rfl _) (fun q hq => by subst hq; exact HF.out _ (.inr (.inl rfl)))
            have hto6 := hideP (RefTo.next ht2.drawn HF.out hto5)
            rw [HEQ.out] at hto6
            clear hto5 ht2
            go_wp2
            go_roundw
            case rel => exact ⟨k + 1, by omega, by go_num, hcan, by rw [HS.out, ← HQ.out]; exact hto6, by rw [HS.out, ← HQ.out]; exact HRM2, by rw [HS.out, ← HQ.out]; exact HOK2⟩
            case measure => simp [intOf]; omega
          · have hres : Hid (endR C es f = (k, 3, q)) := by
              show _ = _
              rw [HPR.out, hdrop.out, ← HQ.out, endR, if_neg (by omega), if_pos (by simp only [Int.toNat_natCast]; rw [hget.out]; exact hen)]
              rfl
            go_wp2_with fail
            go_quiet (fail)
            go_wp2_with fail
            go_quiet (fail)
            go_wp2
            go_ret2
            exact ⟨by rw [hres.out]; rfl, by rw [hres.out]; exact HTO.out.drawn⟩
    · have ek : k = es.length := by omega
      subst ek
      have hres : Hid (endR C es f = (es.length, 0, endTo C es es.length f)) := by
        show _ = _
        rw [endR_all C es f es.length HCT.out (Nat.le_refl _), List.drop_length]
        simp [endR]
      go_wp2
      go_ret2
      exact ⟨by rw [hres.out]; rfl, by rw [hres.out]; exact HTO.out⟩
end Go.Proofs.YtnnoaolceeendaaGreatDoor
namespace Go.Proofs.YtnnoaolceeendaaGreatDoor
open Go.ChangeShapes Go.WideShapes Go.ChangeAt Go.RowKit

def ticksF (C : Cf) : Nat → M.Fl ByteArray → M.Fl ByteArray
  | 0, f => f
  | n + 1, f => M.tickF ltK C.bound C.idle (ticksF C n f)

def tickR (C : Cf) (n : Int) (f : M.Fl ByteArray) : Int × M.Fl ByteArray := if n < 0 ∨ 1000 < n then (1, f) else (0, ticksF C n.toNat f)

/-- The parts behind a tick as far as the first k. -/
def tickedTo (idle : Int) (ps : List M.Pt) (k : Nat) : List M.Pt := (ps.take k).map (M.tickP idle) ++ ps.drop k

theorem tickedTo_len (idle : Int) (ps : List M.Pt) (k : Nat) : (tickedTo idle ps k).length = ps.length := by
  simp only [tickedTo, List.length_append, List.length_map, List.length_take, List.length_drop]; omega

theorem tickedTo_at (idle : Int) {ps : List M.Pt} {k : Nat} {x : M.Pt} (h : ps[k]? = some x) : (tickedTo idle ps k)[k]? = some x := by
  have hk := List.getElem?_eq_some_iff.1 h
  unfold tickedTo
  rw [List.getElem?_append_right (by simp; omega)]
  simp [Nat.min_eq_left (Nat.le_of_lt hk.1), h]

theorem tickedTo_succ (idle : Int) {ps : List M.Pt} {k : Nat} {x : M.Pt} (h : ps[k]? = some x) : (tickedTo idle ps k).set k (M.tickP idle x) = tickedTo idle ps (k + 1) := by
  have hk := List.getElem?_eq_some_iff.1 h
  unfold tickedTo
  have hk1 := hk.1
  rw [take_snoc' h, List.map_append, List.set_append_right _ _ (by simp; omega)]
  have e1 : k - ((ps.take k).map (M.tickP idle)).length = 0 := by simp; omega
  rw [e1, List.drop_eq_getElem_cons hk.1, List.set_cons_zero]
  simp

/-- What holds between two ticks: nobody has been silent too long to count. -/
def silentOk (n : Int) (ps : List M.Pt) : Prop := ∀ p ∈ ps, 0 ≤ p.silent ∧ p.silent ≤ n

theorem ticked_ok {C : Cf} {q : M.Fl ByteArray} (h : FlOk C q) (k : Nat) : mostOk (tickedTo C.idle q.parts k) := fun p hp => by
  unfold tickedTo at hp
  rcases List.mem_append.1 hp with h' | h'
  · obtain ⟨x, hx, rfl⟩ := List.mem_map.1 h'
    have := h.most x (List.mem_of_mem_take hx)
    unfold M.tickP
    split
    · exact this
    · exact this
  · exact h.most p (List.mem_of_mem_drop h')

theorem FlOk.tick {C : Cf} {q : M.Fl ByteArray} (h : FlOk C q) : FlOk C (M.tickF ltK C.bound C.idle q) := by
  have hp : (M.tickF ltK C.bound C.idle q).parts = q.parts.map (M.tickP C.idle) := rfl
  refine ⟨?_, by rw [hp, List.length_map]; exact h.len⟩
  have := ticked_ok h q.parts.length
  rw [hp]
  simpa [tickedTo] using this

theorem Room.tick {q : M.Fl ByteArray} {N : Nat} (h : Room q N) (C : Cf) : Room (M.tickF ltK C.bound C.idle q) N := h.move C ⟨rfl, rfl, rfl⟩

theorem silent_tick {C : Cf} {q : M.Fl ByteArray} {n : Int} (h : silentOk n q.parts) : silentOk (n + 1) (M.tickF ltK C.bound C.idle q).parts := fun p hp => by
  have hp' : p ∈ q.parts.map (M.tickP C.idle) := hp
  obtain ⟨x, hx, rfl⟩ := List.mem_map.1 hp'
  have := h x hx
  unfold M.tickP
  split
  · omega
  · simp only; omega

theorem set_same {α : Type} : ∀ {l : List α} {k : Nat} {x : α}, l[k]? = some x → l.set k x = l
  | [], _, _, h => by simp at h
  | y :: l, 0, x, h => by
    simp at h
    subst h
    rfl
  | y :: l, k + 1, x, h => by
    have h' : l[k]? = some x := by simpa using h
    rw [List.set_cons_succ, set_same h']

set_option maxRecDepth 100000 in
set_option maxHeartbeats 4000000 in
theorem rTick_any (g : Nat) (C : Cf) (hC : CfOk C) (f : M.Fl ByteArray) (n sb : Int) (pv ov tv av : Value) (w : World) (N : Nat) (hr : RefAt w g C f pv ov tv av) (hroom : Room f N) (hok : FlOk C f) (hsil : silentOk sb f.parts) (hsb : sb ≤ 1000000000000) :
    Calls Tryz.prog 36 #[.pointer (some ⟨g, 0, none⟩), .int .i64 n] w fun r w' => r = .returned (.int .i64 (tickR C n f).1) ∧ RefTo (feet g pv ov tv av) w w' g C (tickR C n f).2 := by
  have HR := hideP hr
  have HC := hideP hC
  have HSIL := hideP hsil
  by_cases hbad : n < 0 ∨ 1000 < n
  · have hres : Hid (tickR C n f = (1, f)) := by show _ = _; rw [tickR, if_pos hbad]
    rw [hres.out]
    clear hr hC hsil hroom hok
    rcases hbad with h | h
    · go_enter Tryz.func36, Tryz.ntmps36
      go_wp2
      go_ret
      exact ⟨rfl, HR.out.to⟩
    · go_enter Tryz.func36, Tryz.ntmps36
      go_wp2
      go_ret
      exact ⟨rfl, HR.out.to⟩
  · obtain ⟨T, hT⟩ := Int.eq_ofNat_of_zero_le (show 0 ≤ n by omega)
    subst hT
    have hT1 : T ≤ 1000 := by omega
    have hres : Hid (tickR C (T : Int) f = (0, ticksF C T f)) := by show _ = _; rw [tickR, if_neg hbad, Int.toNat_natCast]
    rw [hres.out]
    clear hr hC hsil hbad
    go_enter Tryz.func36, Tryz.ntmps36
    go_wp2
    go_loopw [1] (fun nn wr => ∃ t : Nat, t ≤ T ∧ nn = .int .i64 ((T : Int) - t) ∧ Hid (RefTo (feet g pv ov tv av) w wr g C (ticksF C t f)) ∧ Hid (Room (ticksF C t f) N) ∧ Hid (FlOk C (ticksF C t f)) ∧ Hid (silentOk (sb + t) (ticksF C t f).parts))
      (fun nn _ => (intOf nn).toNat)
    case atStart => exact ⟨0, Nat.zero_le _, by go_num, HR.out.to, hroom, hok, by show silentOk (sb + ((0 : Nat) : Int)) f.parts; simpa using HSIL.out⟩
    case round =>
      obtain ⟨t, ht, rfl, HTO, HRM, HOK, HSI⟩ := hrel
      clear hroom hok
      by_cases hlt : t < T
      · obtain ⟨q, hq⟩ : ∃ q, q = ticksF C t f := ⟨_, rfl⟩
        rw [← hq] at HTO HRM HOK HSI
        have HQ := hideP hq
        clear hq
        go_wp2
        go_loopw [5] (fun ii wr => ∃ k : Nat, k ≤ q.parts.length ∧ ii = .int .i64 k ∧ Hid (RefTo (feet g pv ov tv av) w wr g C { q with parts := tickedTo C.idle q.parts k })) (fun ii _ => q.parts.length - (intOf ii).toNat)
        case atStart => exact ⟨0, Nat.zero_le _, rfl, by simpa [tickedTo] using HTO⟩
        case round =>
          obtain ⟨k, hk, rfl, HT2⟩ := hrel
          obtain ⟨pv', ov', tv', av', R, Tc, hf⟩ := HT2.out
          have c6 := R.cells.2.2.2.2.2.2.1
          have c3 := R.cells.2.2.2.1
          obtain ⟨pa, pc, epv⟩ := R.parts.slice
          subst epv
          have hpl : Hid ((tickedTo C.idle q.parts k).length = q.parts.length) := tickedTo_len _ _ _
          have hql := HOK.out.len
          simp only [hpl.out] at c6 R hf
          have RR := hideP R
          have HTc := hideP Tc
          have HF := hideP hf
          have hgl := lt_of_block R.obj
          clear R Tc hf
          by_cases hlt2 : k < q.parts.length
          · obtain ⟨x, hx⟩ : ∃ x, q.parts[k]? = some x := ⟨_, List.getElem?_eq_getElem hlt2⟩
            have HX := hideP hx
            have HXT := hideP (tickedTo_at C.idle hx)
            obtain ⟨pb, cpb, ev, -, hpb, e0, e1, e2, e3, e4⟩ := pt_at RR.out.parts HXT.out
            simp only [Value.slice.injEq] at ev
            obtain ⟨rfl, -, rfl⟩ := ev
            have hsx := HSI.out x (List.mem_of_getElem? hx)
            obtain ⟨hs0, hs1⟩ := hsx
            have i1 : (0 : Int) ≤ (k : Int) := by omega
            have i2 : (k : Int) < (q.parts.length : Int) := by omega
            have hgp : ¬ pb = g := RR.out.far pb (.inl rfl)
            have hfr : ∀ j, wr.frozen? ⟨pb, j, none⟩ = false := fun j => RR.out.parts.frozen j
            clear hx e0 e1
            cases hen : x.ended
            · have R1 := hideP (RR.out.setPart hpl.out (i := k) (j := 4) (y := { x with silent := x.silent + 1 }) (u := .int .i64 (x.silent + 1)) HXT.out (by omega) rfl)
              have T1 := hideP (HTc.out.trans (Touch.set (a := ⟨pb, k * 5 + 4, none⟩) (S := fun q => q = pb) rfl (.int .i64 (x.silent + 1))) (fun q hq => by subst hq; exact HF.out _ (.inr (.inl rfl))))
              have d4 : (wr.setCell ⟨pb, k * 5 + 4, none⟩ (.int .i64 (x.silent + 1))).cell? ⟨pb, k * 5 + 4, none⟩ = some (.int .i64 (x.silent + 1)) := World.cell?_setCell_same _ _ _ e4
              have d3 : (wr.setCell ⟨pb, k * 5 + 4, none⟩ (.int .i64 (x.silent + 1))).cell? ⟨pb, k * 5 + 3, none⟩ = some (.bool x.idle) := (World.cell?_setCell_other _ _ _ _ (fun h => by have h2 := (Addr.mk.inj h).2.1; omega)).trans e3
              have g3 : (wr.setCell ⟨pb, k * 5 + 4, none⟩ (.int .i64 (x.silent + 1))).cell? ⟨g, 3, none⟩ = some (.int .i64 C.idle) := (World.cell?_setCell_other _ _ _ _ (fun h => hgp (Addr.mk.inj h).1)).trans c3
              have g6 : (wr.setCell ⟨pb, k * 5 + 4, none⟩ (.int .i64 (x.silent + 1))).cell? ⟨g, 6, none⟩ = some (.slice (some ⟨pb, 0, none⟩) q.parts.length pc) := (World.cell?_setCell_other _ _ _ _ (fun h => hgp (Addr.mk.inj h).1)).trans c6
              have hfr1 : ∀ j, (wr.setCell ⟨pb, k * 5 + 4, none⟩ (.int .i64 (x.silent + 1))).frozen? ⟨pb, j, none⟩ = false := fun j => R1.out.parts.frozen j
              have hz1 : (wr.setCell ⟨pb, k * 5 + 4, none⟩ (.int .i64 (x.silent + 1))).heap.size = wr.heap.size := by simp
              go_wp2_with fail
              generalize wr.setCell ⟨pb, k * 5 + 4, none⟩ (.int .i64 (x.silent + 1)) = w1 at R1 T1 d4 d3 g3 g6 hfr1 hz1 ⊢
              have hgl1 : g < w1.heap.size := by omega
              have hpb1 : pb < w1.heap.size := by omega
              clear e2 e3 e4 c3 c6 hfr hz1
              by_cases hidl : 0 < C.idle
              · by_cases hge : C.idle ≤ x.silent + 1
                · have HS : Hid (RefTo (feet g pv ov tv av) w (w1.setCell ⟨pb, k * 5 + 3, none⟩ (.bool true)) g C { q with parts := tickedTo C.idle q.parts (k + 1) }) := by
                    have r2 := R1.out.setPart (by rw [List.length_set]; exact hpl.out) (i := k) (j := 3) (x := { x with silent := x.silent + 1 }) (y := { x with silent := x.silent + 1, idle := true }) (u := .bool true) (by rw [List.getElem?_set_self (by rw [hpl.out]; exact hlt2)]) (by omega) rfl
                    simp only [List.set_set] at r2
                    have e5 : M.tickP C.idle x = { x with silent := x.silent + 1, idle := true } := by simp [M.tickP, hen, hidl, hge]
                    rw [← e5, tickedTo_succ C.idle HX.out] at r2
                    exact ⟨_, _, _, _, r2, T1.out.trans (Touch.set (a := ⟨pb, k * 5 + 3, none⟩) (S := fun q => q = pb) rfl _) (fun q hq => by subst hq; exact HF.out _ (.inr (.inl rfl))), HF.out⟩
                  go_wp2_with fail
                  go_quiet (fail)
                  have HS2 : Hid (RefTo (feet g pv ov tv av) w ((w1.drewN nq).setCell ⟨pb, k * 5 + 3, none⟩ (.bool true)) g C { q with parts := tickedTo C.idle q.parts (k + 1) }) := HS.out.drawn
                  go_wp2
                  go_roundw
                  case rel => exact ⟨k + 1, by omega, by go_num, HS2⟩
                  case measure => simp [intOf]; omega
                · have HS : Hid (RefTo (feet g pv ov tv av) w w1 g C { q with parts := tickedTo C.idle q.parts (k + 1) }) := by
                    have r2 := R1.out
                    have e5 : M.tickP C.idle x = { x with silent := x.silent + 1 } := by simp [M.tickP, hen, hge]
                    rw [← e5, tickedTo_succ C.idle HX.out] at r2
                    exact ⟨_, _, _, _, r2, T1.out, HF.out⟩
                  go_wp2_with fail
                  go_quiet (fail)
                  have HS2 : Hid (RefTo (feet g pv ov tv av) w (w1.drewN nq) g C { q with parts := tickedTo C.idle q.parts (k + 1) }) := HS.out.drawn
                  go_wp2
                  go_roundw
                  case rel => exact ⟨k + 1, by omega, by go_num, HS2⟩
                  case measure => simp [intOf]; omega
              · have HS : Hid (RefTo (feet g pv ov tv av) w w1 g C { q with parts := tickedTo C.idle q.parts (k + 1) }) := by
                  have r2 := R1.out
                  have e5 : M.tickP C.idle x = { x with silent := x.silent + 1 } := by simp [M.tickP, hen, hidl]
                  rw [← e5, tickedTo_succ C.idle HX.out] at r2
                  exact ⟨_, _, _, _, r2, T1.out, HF.out⟩
                have hdd : decide (0 < C.idle) = false := by simpa using hidl
                go_wp2_with fail
                go_quiet (fail)
                have HS2 : Hid (RefTo (feet g pv ov tv av) w (w1.drewN nq) g C { q with parts := tickedTo C.idle q.parts (k + 1) }) := HS.out.drawn
                go_wp2
                go_roundw
                case rel => exact ⟨k + 1, by omega, by go_num, HS2⟩
                case measure => simp [intOf]; omega
            · have HS : Hid (RefTo (feet g pv ov tv av) w wr g C { q with parts := tickedTo C.idle q.parts (k + 1) }) := by
                show RefTo _ _ _ _ _ _
                have e5 : tickedTo C.idle q.parts (k + 1) = tickedTo C.idle q.parts k := by
                  rw [← tickedTo_succ C.idle HX.out]
                  have : M.tickP C.idle x = x := by simp [M.tickP, hen]
                  rw [this]
                  exact set_same HXT.out
                rw [e5]
                exact HT2.out
              go_wp2
              go_roundw
              case rel => exact ⟨k + 1, by omega, by go_num, HS⟩
              case measure => simp [intOf]; omega
          · have ek : k = q.parts.length := by omega
            subst ek
            have hall : Hid (tickedTo C.idle q.parts q.parts.length = q.parts.map (M.tickP C.idle)) := by show _ = _; simp [tickedTo]
            have hro := HRM.out.opn
            have HMO := hideP (ticked_ok HOK.out q.parts.length)
            go_wp2_with fail
            refine (rmove_any g C _ _ _ _ _ _ RR.out HC.out.b0 HC.out.b1 HMO.out (by rw [hpl.out]; exact hql) (by show q.opn.length ≤ _; omega) (by show q.told.length ≤ _; omega)).mono ?_
            rintro r w5 ⟨rfl, hto5⟩
            have hto6 := hideP (RefTo.next HTc.out HF.out hto5)
            rw [hall.out] at hto6
            have hss := hideP (silent_tick (C := C) HSI.out)
            clear hto5
            go_wp2
            go_roundw
            case rel => exact ⟨t + 1, by omega, by go_num, by show RefTo _ _ _ _ _ (M.tickF ltK C.bound C.idle (ticksF C t f)); rw [← HQ.out]; exact hto6, by show Room (M.tickF ltK C.bound C.idle (ticksF C t f)) N; rw [← HQ.out]; exact HRM.out.tick C, by show FlOk C (M.tickF ltK C.bound C.idle (ticksF C t f)); rw [← HQ.out]; exact HOK.out.tick, by show silentOk _ (M.tickF ltK C.bound C.idle (ticksF C t f)).parts; rw [← HQ.out]; have := hss.out; rw [show sb + ((t + 1 : Nat) : Int) = sb + t + 1 by omega]; exact this⟩
            case measure => simp [intOf]; omega
      · have et : t = T := by omega
        subst et
        go_wp2
        go_ret
        exact ⟨rfl, HTO.out⟩
end Go.Proofs.YtnnoaolceeendaaGreatDoor
