import Derived.Test.YtnnoaolceeendaaGreatDoorFlwR
import Derived.Test.YtnnoaolceeendaaGreatDoorWinT
namespace Go.Proofs.YtnnoaolceeendaaGreatDoor
open Go.ChangeShapes Go.WideShapes Go.ChangeAt Go.RowKit

/-- What stays of a flow while an event is counted. -/
structure SameP (s s' : FS) : Prop where
  C : s'.C = s.C
  pv : s'.pv = s.pv
  ps : s'.ps = s.ps
  m : s'.m = s.m
  tv : s'.tv = s.tv
  told : s'.told = s.told
  av : s'.av = s.av
  after : s'.after = s.after
theorem SameP.refl (s : FS) : SameP s s := ⟨rfl, rfl, rfl, rfl, rfl, rfl, rfl, rfl⟩
theorem SameP.trans {a b c : FS} (h : SameP a b) (k : SameP b c) : SameP a c := ⟨k.C.trans h.C, k.pv.trans h.pv, k.ps.trans h.ps, k.m.trans h.m, k.tv.trans h.tv, k.told.trans h.told, k.av.trans h.av, k.after.trans h.after⟩

theorem FlObj.at1 {w : World} {g : Nat} {s : FS} (h : FlObj w g s) : w.cell? ⟨g, 1, none⟩ = some (.int .i64 s.C.slide) := h.cell (by omega)
theorem FlObj.at5 {w : World} {g : Nat} {s : FS} (h : FlObj w g s) : w.cell? ⟨g, 5, none⟩ = some (.int .i64 s.C.fold) := h.cell (by omega)

theorem Touch.fst {S : Nat → Prop} {w w' : World} (h : Touch S w w') (hL : FSt w) (hn : ¬ S 0) : FSt w' := hL.agree (h.block 0 hL.lt hn)

/-- What an event's counting asks of a config. -/
structure CfW (C : Cf) : Prop where
  s1 : 1 ≤ C.slide
  s2 : C.slide ≤ C.size
  s3 : C.size ≤ 10 * C.slide
  s4 : C.size ≤ 1000
  f0 : 0 ≤ C.fold
  f3 : C.fold ≤ 3

theorem cP_len {size fold b v : Int} {key : ByteArray} : ∀ l : List (M.Pn ByteArray), (M.countP size fold b key v l).length ≤ l.length + 1
  | [] => by simp [M.countP]
  | p :: r => by
    have := cP_len (size := size) (fold := fold) (b := b) (v := v) (key := key) r
    unfold M.countP
    split
    · simp
    · simp only [List.length_cons]; omega
theorem cA_len {size fold now v : Int} {key : ByteArray} : ∀ (ws : List Int) (l : List (M.Pn ByteArray)), (M.countAll size fold now key v ws l).length ≤ l.length + ws.length
  | [], l => by simp [M.countAll]
  | b :: ws, l => by
    have e : M.countAll size fold now key v (b :: ws) l = M.countAll size fold now key v ws (if now < b + size then M.countP size fold b key v l else l) := rfl
    have h1 := cA_len (size := size) (fold := fold) (now := now) (v := v) (key := key) ws (if now < b + size then M.countP size fold b key v l else l)
    have h2 : (if now < b + size then M.countP size fold b key v l else l).length ≤ l.length + 1 := by
      split
      · exact cP_len l
      · omega
    rw [e, List.length_cons]
    omega
theorem cA_snoc {size fold now v b : Int} {key : ByteArray} (ws : List Int) (l : List (M.Pn ByteArray)) : M.countAll size fold now key v (ws ++ [b]) l = if now < b + size then M.countP size fold b key v (M.countAll size fold now key v ws l) else M.countAll size fold now key v ws l := by
  unfold M.countAll
  rw [List.foldl_append]
  rfl
theorem late_snoc {size now b : Int} (ws : List Int) : M.isLate size now (ws ++ [b]) = (M.isLate size now ws && decide (b + size ≤ now)) := by simp [M.isLate]

/-- What the loop of 'count' holds. -/
structure Cnt (w2 wr : World) (g : Nat) (s s1 : FS) (f : M.Fl ByteArray) (key : ByteArray) (v : Int) (ws : List Int) (j : Nat) : Prop where
  way : Way w2 wr g s s1
  rel : FRel s1 { f with opn := M.countAll s.C.size s.C.fold f.now key v (ws.take j) f.opn }
  same : SameP s s1

/-- What 'waiting' has left. -/
structure Wtd (wr w' : World) (g : Nat) (s1 : FS) (e : Int) (l d b : Nat) (sv' : Nat → Nat → Value) : Prop where
  fl : FlowIs w' g { s1 with TM := putM s1.TM e b, sv := sv', SL := waitSL s1 e l d }
  touch : Touch (foot g s1) wr w'
  foot : ∀ k, foot g { s1 with TM := putM s1.TM e b, sv := sv' } k → Go.Proofs.YtnnoaolceeendaaGreatDoor.foot g s1 k ∨ wr.heap.size ≤ k

theorem Cnt.step {w2 wr w3 w4 : World} {g : Nat} {s s1 : FS} {f : M.Fl ByteArray} {key : ByteArray} {v b : Int} {ws : List Int} {j l d tb : Nat} {sv' : Nat → Nat → Value} (h : Cnt w2 wr g s s1 f key v ws j) (hj : ws[j]? = some b) (hnow : s.m < b + s.C.size) (hb : Wh.IsT b) (he : Wh.IsT (b + s.C.size)) (hl : Wh.levF (Wh.rk s.m) (Wh.rk (b + s.C.size)) = l) (hd : Wh.dig l (Wh.rk (b + s.C.size)) = d)
    (W : Wtd wr w3 g s1 (b + s.C.size) l d tb sv') (ht : TalAt w4 tb (putG (s1.GM (b + s.C.size)) key (addV s.C.fold (s1.GM (b + s.C.size) key) v))) (hto : Touch (fun k => k = tb) w3 w4) : ∃ s2, Cnt w2 w4 g s s2 f key v ws (j + 1) := by
  have hT : putM s1.TM (b + s.C.size) tb (b + s.C.size) = some tb := by simp [putM]
  have F := W.fl.added (e := b + s.C.size) (key := key) (n := addV s.C.fold (s1.GM (b + s.C.size) key) v) hT hto ht
  have hto2 : Touch (foot g s1) wr w4 := W.touch.trans hto (fun k hk => by
    subst hk
    exact W.foot k (.inr (.inr (.inr (.inl ⟨_, hT⟩)))))
  refine ⟨_, h.way.next F hto2 (fun _ hk => hk) W.foot, ?_, h.same.trans ⟨rfl, rfl, rfl, rfl, rfl, rfl, rfl, rfl⟩⟩
  have hR := h.rel
  rw [take_snoc' hj, cA_snoc, if_pos (by rw [← hR.now, h.same.m]; exact hnow)]
  have e1 := h.same.C
  have e2 := h.same.m
  have key2 := hR.count (b := b) (fold := s.C.fold) (v := v) (key := key) (tb := tb) (l := l) (d := d) (sv' := sv') (by rw [e1, e2]; exact hnow) hb (by rw [e1]; exact he) (by rw [e1, e2]; exact hl) (by rw [e1]; exact hd)
  rw [congrArg Cf.size e1] at key2
  exact key2

set_option maxRecDepth 100000 in
set_option maxHeartbeats 4000000 in
theorem count_any (g : Nat) (s : FS) (f : M.Fl ByteArray) (part : Int) (key : ByteArray) (at_ v : Int) (w : World) (h : FlowIs w g s) (hR : FRel s f) (hL : FSt w) (hlow : ∀ k, foot g s k → 1 ≤ k) (hC : CfW s.C) (ht : Wh.IsT at_) (hk : key.size ≤ 1048576) (hv : fits v) (hroom : f.opn.length + 11 ≤ 50000000) :
    Calls Tryz.prog 53 #[.pointer (some ⟨g, 0, none⟩), .agg #[.int .i64 part, .string key, .int .i64 at_, .int .i64 v]] w fun r w' => r = .returned (.bool (!M.isLate s.C.size f.now (wins at_ s.C.size s.C.slide))) ∧ ∃ s', Way w w' g s s' ∧ FRel s' { f with opn := M.countAll s.C.size s.C.fold f.now key v (wins at_ s.C.size s.C.slide) f.opn } ∧ SameP s s' := by
  have c0 := h.ob.at0
  have c1 := h.ob.at1
  have hgz := h.ob.lt
  have hA : Below w.heap.size w (w.alloc (.cells #[.int .i64 part, .string key, .int .i64 at_, .int .i64 v] 54)) := (Below.refl _ _).alloc (Nat.le_refl _) _
  have hbxh : (w.alloc (.cells #[.int .i64 part, .string key, .int .i64 at_, .int .i64 v] 54)).heap[w.heap.size]? = some (.cells #[.int .i64 part, .string key, .int .i64 at_, .int .i64 v] 54 (0, 0)) := heap_alloc_new w _
  obtain ⟨w1, hw1⟩ : ∃ x, x = w.alloc (.cells #[.int .i64 part, .string key, .int .i64 at_, .int .i64 v] 54) := ⟨_, rfl⟩
  have hz1 : w1.heap.size = w.heap.size + 1 := by rw [hw1]; simp
  rw [← hw1] at hA hbxh
  have HW1 := hideP hw1
  have d0 := keepAt hA hgz c0
  have d1 := keepAt hA hgz c1
  have a2 : w1.cell? ⟨w.heap.size, 2, none⟩ = some (.int .i64 at_) := cell_of_row w1 _ 2 _ _ _ hbxh
  have hnb : ¬ foot g s w.heap.size := fun hx => by have := h.foot_lt hx; omega
  have hn0 : ¬ foot g s 0 := fun hx => by have := hlow 0 hx; omega
  have HF := hideP h
  have HR := hideP hR
  have HL := hideP hL
  have HA := hideP hA
  have HBX := hideP hbxh
  obtain ⟨q1, q2, q3, q4, q5, q6⟩ := hC
  obtain ⟨ws, hws⟩ : ∃ ws, ws = wins at_ s.C.size s.C.slide := ⟨_, rfl⟩
  have hwl : ws.length ≤ 11 := by rw [hws]; exact wins_len _ _ _
  have hwk : ∀ b ∈ ws, -9223372036854775808 ≤ b ∧ b + s.C.size ≤ 9223372036854775807 := fun b hb => by rw [hws] at hb; have := wins_ok q1 hb; omega
  have BG : Hid (∀ w9 : World, w9.os = w1.os → w9.tape = w1.tape → w9.output = w1.output → w9.heap = w1.heap → Calls Tryz.prog 69 #[.int .i64 at_, .int .i64 s.C.size, .int .i64 s.C.slide] w9 fun r w2 => ∃ v2, r = .returned v2 ∧ RowIs inC w2 w1.heap.size 3 1 v2 ws ∧ Below w1.heap.size w1 w2) := fun w9 e1 e2 e3 e4 => by
    refine (begins_any at_ s.C.size s.C.slide w9 ht.1 ht.2 q1 q2 q3 q4).mono ?_
    rintro r w2 ⟨v2, rfl, ho, hb⟩
    rw [e4] at ho hb
    rw [← hws] at ho
    refine ⟨v2, rfl, ?_, ⟨hb.os.trans e1, hb.tape.trans e2, hb.output.trans e3, by rw [← e4]; exact hb.size, fun k hk => by rw [hb.block k hk, e4]⟩⟩
    unfold RowIs
    rw [in_flat]
    exact ho
  rw [← hws]
  clear h hR hL hA hbxh hws hw1 hlow
  go_enter Tryz.func53, Tryz.ntmps53
  go_wp2_with fail
  rw [← HW1.out]
  go_cut [21, 22, 23] (fun lv n i wx => ∃ a c, lv = .slice a ws.length c ∧ n = .int .i64 (ws.length : Int) ∧ i = .int .i64 0 ∧ Hid (RowIs inC wx w1.heap.size 3 1 (.slice a ws.length c) ws ∧ Below w1.heap.size w1 wx))
  case first =>
    go_region_with (go_at_call 69; refine (BG.out _ ?_ ?_ ?_ ?_).mono ?_; rfl; rfl; rfl; rfl; rintro r w2 ⟨v2, rfl, hr2, hb2⟩; obtain ⟨aa, cc, rfl⟩ := hr2.slice)
    all_goals
      go_wp2_with fail
      go_meet
      exact ⟨aa, cc, rfl, rfl, rfl, hr2, hb2⟩
  case rest =>
    obtain ⟨aa, cc, rfl, rfl, rfl, HRB⟩ := hcut
    have hF2 : FlowIs wc g s := (HF.out.below HA.out).below HRB.out.2
    have hz2 : w1.heap.size ≤ wc.heap.size := HRB.out.2.size
    have hBX2 : wc.heap[w.heap.size]? = some (.cells #[.int .i64 part, .string key, .int .i64 at_, .int .i64 v] 54 (0, 0)) := (HRB.out.2.block _ (by omega)).trans HBX.out
    have hL2 : FSt wc := (HL.out.agree (HA.out.block 0 HL.out.lt)).agree (HRB.out.2.block 0 (by have := HL.out.lt; omega))
    have HBX2 := hideP hBX2
    have HL2 := hideP hL2
    have HF2 := hideP hF2
    have C0 : Hid (Cnt wc wc g s s f key v ws 0) := ⟨Way.start hF2, by
      have : M.countAll s.C.size s.C.fold f.now key v (ws.take 0) f.opn = f.opn := rfl
      rw [this]
      exact HR.out, SameP.refl s⟩
    clear hF2 hBX2 hL2
    go_wp2
    go_loopw [5, 23] (fun ct ii wr => ∃ j : Nat, j ≤ ws.length ∧ ii = .int .i64 j ∧ ct = .bool (!M.isLate s.C.size f.now (ws.take j)) ∧ ∃ s1, Hid (Cnt wc wr g s s1 f key v ws j)) (fun _ ii _ => ws.length - (intOf ii).toNat)
    case atStart => exact ⟨0, Nat.zero_le _, rfl, rfl, s, C0⟩
    case round =>
      obtain ⟨j, hj, rfl, rfl, s1, HC⟩ := hrel
      by_cases hlt : j < ws.length
      · obtain ⟨b, hx⟩ : ∃ e, ws[j]? = some e := ⟨_, List.getElem?_eq_getElem hlt⟩
        have hrw : RowIs inC wr w1.heap.size 3 1 (.slice aa ws.length cc) ws := HRB.out.1.agree fun k hk' => HC.out.way.touch.block k (HRB.out.1.lt k hk').2 (fun hf => by have h1 := HF.out.foot_lt hf; have h2 := (HRB.out.1.lt k hk').1; omega)
        obtain ⟨rb, cp, ev, -, hrb, hcl, -⟩ := hrw.at inC_len hx
        simp only [Value.slice.injEq] at ev
        obtain ⟨rfl, -, rfl⟩ := ev
        have m0 : wr.cell? ⟨rb, j, none⟩ = some (.int .i64 b) := by
          have := hcl 0 (by omega)
          simpa [inC] using this
        obtain ⟨hb1, hb2⟩ := hwk b (List.mem_of_getElem? hx)
        have e0 := HC.out.way.fl.ob.at0
        have e5 := HC.out.way.fl.ob.at5
        have e7 := HC.out.way.fl.ob.at7
        rw [HC.out.same.C] at e0 e5
        rw [HC.out.same.m] at e7
        have hbxr : wr.heap[w.heap.size]? = some (.cells #[.int .i64 part, .string key, .int .i64 at_, .int .i64 v] 54 (0, 0)) := (HC.out.way.touch.block _ (by omega) hnb).trans HBX2.out
        have x1 : wr.cell? ⟨w.heap.size, 1, none⟩ = some (.string key) := cell_of_row wr _ 1 _ _ _ hbxr
        have x3 : wr.cell? ⟨w.heap.size, 3, none⟩ = some (.int .i64 v) := cell_of_row wr _ 3 _ _ _ hbxr
        have hrz : wc.heap.size ≤ wr.heap.size := HC.out.way.touch.size
        have HX := hideP hx
        have HLT := hideP (late_snoc (size := s.C.size) (now := f.now) (b := b) (ws.take j))
        have HTS := hideP (take_snoc' hx)
        have hnow : s.m = f.now := HR.out.now
        have HNOW := hideP hnow
        have j1 : (0 : Int) ≤ (j : Int) := by omega
        have j2 : (j : Int) < (ws.length : Int) := by omega
        have hgr := HC.out.way.fl.ob.lt
        clear hx hcl hrw hbxr hnow
        by_cases hm : s.m < b + s.C.size
        · have hT : Wh.IsT (b + s.C.size) := ⟨by omega, by omega⟩
          obtain ⟨l, hl⟩ : ∃ l, Wh.levF (Wh.rk s.m) (Wh.rk (b + s.C.size)) = l := ⟨_, rfl⟩
          obtain ⟨d, hd⟩ : ∃ d, Wh.dig l (Wh.rk (b + s.C.size)) = d := ⟨_, rfl⟩
          have hl16 : l < 16 := by rw [← hl]; exact lev_lt HR.out.mT hT (by omega)
          have hd16 : d < 16 := by rw [← hd]; exact Wh.dig_lt _ _
          have hlen : (M.countAll s.C.size s.C.fold f.now key v (ws.take j) f.opn).length ≤ 50000000 := by
            have h1 := cA_len (size := s.C.size) (fold := s.C.fold) (now := f.now) (v := v) (key := key) (ws.take j) f.opn
            have h2 : (ws.take j).length ≤ 11 := Nat.le_trans (List.length_take_le' _ _) hwl
            omega
          have WA : Hid (∀ w9 : World, w9.os = wr.os → w9.tape = wr.tape → w9.output = wr.output → w9.heap = wr.heap → Calls Tryz.prog 70 #[.pointer (some ⟨g, 7, none⟩), .int .i64 (b + s.C.size)] w9 fun r w' => ∃ tb, r = .returned (.map (some tb)) ∧ ∃ sv', Wtd wr w' g s1 (b + s.C.size) l d tb sv') := fun w9 e1 e2 e3 e4 => by
            have hf9 : FlowIs w9 g s1 := HC.out.way.fl.agree fun k _ => by rw [e4]
            refine (waiting_any g s1 (b + s.C.size) l d w9 hf9 HC.out.rel.mT hT (by rw [HC.out.same.m]; omega) (by rw [HC.out.same.m]; exact hl) hd ?_ ?_ ((M.countAll s.C.size s.C.fold f.now key v (ws.take j) f.opn).map fun p => p.stop) ?_ ?_).mono ?_
            · have := HC.out.rel.slot_len hl16 hd16
              simp only at this
              omega
            · intro hn
              funext k
              cases hg : s1.GM (b + s.C.size) k with
              | none => rfl
              | some n =>
                obtain ⟨p, hp, h1, -⟩ := (HC.out.rel.opn _ _ _).1 hg
                have := (HC.out.rel.tm _).2 ⟨p, hp, h1⟩
                rw [hn] at this
                cases this
            · intro x hx
              obtain ⟨p, hp, rfl⟩ := (HC.out.rel.tm x).1 hx
              exact List.mem_map.2 ⟨p, hp, rfl⟩
            · rw [List.length_map]; omega
            · rintro r w' ⟨tb, rfl, sv', h1, h2, h3⟩
              rw [e4] at h3
              exact ⟨tb, rfl, sv', h1, ⟨h2.os.trans e1, h2.tape.trans e2, h2.output.trans e3, by rw [← e4]; exact h2.size, fun k hk hn => by rw [h2.block k (by rw [e4]; exact hk) hn, e4]⟩, h3⟩
          have hnb1 : ¬ foot g s1 w.heap.size := fun hx => by
            rcases HC.out.way.foot _ hx with h1 | h1
            · exact hnb h1
            · omega
          have hn01 : ¬ foot g s1 0 := fun hx => by
            rcases HC.out.way.foot _ hx with h1 | h1
            · exact hn0 h1
            · have := HL2.out.lt; omega
          have LR : Hid (FSt wr) := HC.out.way.touch.fst HL2.out hn0
          have AD : Hid (∀ (w3 : World) (tb : Nat) (sv' : Nat → Nat → Value), Wtd wr w3 g s1 (b + s.C.size) l d tb sv' → Calls Tryz.prog 71 #[.map (some tb), .string key, .int .i64 v, .int .i64 s.C.fold] w3 fun r w' => r = .returned (.tuple #[]) ∧ TalAt w' tb (putG (s1.GM (b + s.C.size)) key (addV s.C.fold (s1.GM (b + s.C.size) key) v)) ∧ Touch (fun k => k = tb) w3 w') := fun w3 tb sv' W => by
            refine add_any tb (s1.GM (b + s.C.size)) key v s.C.fold w3 (W.fl.tal (b + s.C.size) tb (by simp [putM])) (W.touch.fst LR.out hn01) (by unfold maxLen; omega) hv q5 q6 ((M.countAll s.C.size s.C.fold f.now key v (ws.take j) f.opn).map fun p => p.key) ?_ ?_
            · intro x hx
              obtain ⟨n, hn⟩ := Option.isSome_iff_exists.1 hx
              obtain ⟨p, hp, -, rfl, -⟩ := (HC.out.rel.opn _ _ _).1 hn
              exact List.mem_map.2 ⟨p, hp, rfl⟩
            · rw [List.length_map]; omega
          have HLV := hideP hl
          have HDG := hideP hd
          clear hl hd hlen LR
          go_wp2_with fail
          go_cut [] (fun wx => ∃ s2, Hid (Cnt wc wx g s s2 f key v ws (j + 1)))
          case first =>
            go_region_with (first
              | (go_at_call 70; refine (WA.out _ ?_ ?_ ?_ ?_).mono ?_; rfl; rfl; rfl; rfl; rintro r w3 ⟨tb, rfl, sv', W⟩; have HW3 := hideP W; have y1 := W.touch.cell (by omega) hnb1 x1; have y3 := W.touch.cell (by omega) hnb1 x3; have y5 : w3.cell? ⟨g, 5, none⟩ = some (.int .i64 s.C.fold) := (W.fl.ob.at5).trans (by simp only [HC.out.same.C]); clear W)
              | (go_at_call 71; refine (AD.out _ tb sv' HW3.out).mono ?_; rintro r w4 ⟨rfl, ht4, hto4⟩))
            all_goals
              have HCN := HC.out.step HX.out hm ⟨hb1, by omega⟩ hT HLV.out HDG.out HW3.out ht4 hto4
              go_wp2_with fail
              go_meet
              exact HCN
          case rest =>
            obtain ⟨s2, HC2⟩ := hcut
            go_wp2
            go_roundw
            case rel =>
              refine ⟨j + 1, by omega, by go_num, ?_, s2, HC2⟩
              rw [HTS.out, HLT.out]
              have : ¬ b + s.C.size ≤ f.now := by rw [← HNOW.out]; omega
              simp [this]
            case measure => simp [intOf]; omega
        · go_wp2
          go_roundw
          case rel =>
            refine ⟨j + 1, by omega, by go_num, ?_, s1, HC.out.way, ?_, HC.out.same⟩
            · rw [HTS.out, HLT.out]
              have : b + s.C.size ≤ f.now := by rw [← HNOW.out]; omega
              simp [this]
            · have := HC.out.rel
              rw [HTS.out, cA_snoc, if_neg (by rw [← HNOW.out]; exact hm)]
              exact this
          case measure => simp [intOf]; omega
      · have ej : j = ws.length := by omega
        subst ej
        have HRL := hideP HC.out.rel
        have HTK : Hid (ws.take ws.length = ws) := List.take_length
        rw [HTK.out] at HRL ⊢
        go_wp2
        go_ret
        refine ⟨rfl, s1, ?_, HRL.out, HC.out.same⟩
        exact (Way.mk HF2.out (Touch.of_below (HA.out.trans (HRB.out.2.mono (by omega)))) (fun _ hk => .inl hk)).trans HC.out.way
end Go.Proofs.YtnnoaolceeendaaGreatDoor
