import Derived.Test.YtnnoaolceeendaaGreatDoorFlwF
import Derived.Test.YtnnoaolceeendaaGreatDoorFlwI
namespace Go.Proofs.YtnnoaolceeendaaGreatDoor
open Go.ChangeShapes Go.WideShapes Go.ChangeAt Go.RowKit

/-- The box that the closure has taken in lies apart from the flow. -/
theorem box_apart {w : World} {g bx : Nat} {s : FS} {c : Array Value} (h : FlowIs w g s) (hb : w.heap[bx]? = some (.cells c 25 (0, 0))) : ¬ foot g s bx := fun hf => by
  obtain ⟨K, hK⟩ := foot_kd.1 hf
  rcases kd_num h hK with ⟨-, c2, k2⟩ | ⟨-, es, c2, k2⟩
  · rw [hb] at k2
    simp only [Option.some.injEq, Obj.cells.injEq] at k2
    have := k2.2.1
    cases K <;> simp [Kd.num] at this
  · rw [hb] at k2
    simp at k2

theorem Way.box {w wr : World} {g bx : Nat} {s0 s : FS} {c : Array Value} (h : Way w wr g s0 s) (h0 : FlowIs w g s0) (hb : w.heap[bx]? = some (.cells c 25 (0, 0))) : wr.heap[bx]? = some (.cells c 25 (0, 0)) :=
  (h.touch.block bx (lt_of_block hb) (box_apart h0 hb)).trans hb

theorem drL_mem {s0 : FS} {lev a k i : Nat} {e : Int} (hi : i < k) (he : e ∈ sortI (s0.SL lev (a + i))) : e ∈ drL s0 lev a k :=
  List.mem_flatMap.2 ⟨a + i, List.mem_range'_1.2 ⟨by omega, by omega⟩, he⟩

/-- The list gone through is ahead of the whole. -/
theorem drL_split {s0 : FS} {lev a k i : Nat} (hi : i < k) : ∃ r, drL s0 lev a k = drL s0 lev a i ++ sortI (s0.SL lev (a + i)) ++ r := by
  obtain ⟨m, rfl⟩ : ∃ m, k = (i + 1) + m := ⟨k - (i + 1), by omega⟩
  refine ⟨(List.range' (a + (i + 1)) m).flatMap fun d => sortI (s0.SL lev d), ?_⟩
  rw [← drL_succ]
  unfold drL
  rw [← List.flatMap_append]
  congr 1
  have := (List.range'_append (s := a) (m := i + 1) (n := m) (step := 1)).symm
  simp at this ⊢

structure DrR (s0 s : FS) (lev a k i j : Nat) (e : Int) : Prop where
  mem : e ∈ drL s0 lev a k
  tm : e ≤ s0.m → ∃ b, s.TM e = some b
  len : ∀ l d, l ≠ lev → l < 16 → d < 16 → (s.SL l d).length ≤ 100000000
  told : s.told.length ≤ 100000000

theorem DrI.round {w wr : World} {g : Nat} {s0 s : FS} {lev a k i j : Nat} {e : Int} (h : DrI w wr g s0 s lev a i j (sortI (s0.SL lev (a + i)))) (D : DrainOk s0 lev a k) (hi : i < k) (hj : (sortI (s0.SL lev (a + i)))[j]? = some e) : DrR s0 s lev a k i j e := by
  obtain ⟨r, hr⟩ := drL_split (s0 := s0) (lev := lev) (a := a) hi
  have hjl := (List.getElem?_eq_some_iff.1 hj).1
  have hsp : sortI (s0.SL lev (a + i)) = (sortI (s0.SL lev (a + i))).take j ++ e :: (sortI (s0.SL lev (a + i))).drop (j + 1) := by
    have h1 := (List.take_append_drop j (sortI (s0.SL lev (a + i)))).symm
    have h2 : (sortI (s0.SL lev (a + i))).drop j = e :: (sortI (s0.SL lev (a + i))).drop (j + 1) := by
      rw [List.drop_eq_getElem_cons hjl]
      rw [(List.getElem?_eq_some_iff.1 hj).2]
    rw [h2] at h1
    exact h1
  obtain ⟨q, hq⟩ : ∃ q, drL s0 lev a k = (drL s0 lev a i ++ (sortI (s0.SL lev (a + i))).take j) ++ e :: q := ⟨(sortI (s0.SL lev (a + i))).drop (j + 1) ++ r, by
    rw [hr]
    conv => lhs; rw [hsp]
    simp⟩
  have hmem : e ∈ drL s0 lev a k := by rw [hq]; simp
  refine ⟨hmem, fun he => ?_, fun l d hne hl hd => ?_, ?_⟩
  · obtain ⟨⟨b, hb⟩, -⟩ := D.over e hmem he
    refine ⟨b, ?_⟩
    rw [h.drn.TM]
    unfold gone
    rw [if_neg (fun hx => ?_)]
    · exact hb
    · have hn := D.nodup
      rw [hq] at hn
      exact (List.nodup_append.1 hn).2.2 e hx.1 e (by simp) rfl
  · rw [h.drn.SL l d hne]
    have h1 := plc_len s0.m s0.SL (drL s0 lev a i ++ (sortI (s0.SL lev (a + i))).take j) l d
    have h2 := D.lens l d hl hd
    have h3 : (drL s0 lev a i ++ (sortI (s0.SL lev (a + i))).take j).length ≤ (drL s0 lev a k).length := by rw [hq]; simp only [List.length_append]; omega
    omega
  · rw [h.drn.told, List.length_append]
    have h2 := D.told
    have h3 : (tld s0.GM s0.C.size s0.m (drL s0 lev a i ++ (sortI (s0.SL lev (a + i))).take j)).length ≤ (tld s0.GM s0.C.size s0.m (drL s0 lev a k)).length := by
      rw [hq]
      unfold tld
      rw [List.filter_append (l₂ := e :: q), List.flatMap_append, List.length_append]
      omega
    omega

/-- s: s0 behind a drain of the slots a to a + k of level lev. -/
structure Drained (s0 s : FS) (lev a k : Nat) : Prop where
  C : s.C = s0.C
  pv : s.pv = s0.pv
  ps : s.ps = s0.ps
  m : s.m = s0.m
  bt : s.bt = s0.bt
  GM : s.GM = s0.GM
  av : s.av = s0.av
  after : s.after = s0.after
  TM : s.TM = gone s0.m s0.TM (drL s0 lev a k)
  told : s.told = s0.told ++ tld s0.GM s0.C.size s0.m (drL s0 lev a k)
  SL : ∀ l d, l ≠ lev → s.SL l d = plc s0.m s0.SL (drL s0 lev a k) l d
  clean : ∀ d, a ≤ d → d < a + k → s.SL lev d = []
  rest : ∀ d, d < a ∨ a + k ≤ d → s.SL lev d = s0.SL lev d

theorem DrO.cleared {w wr w2 : World} {g : Nat} {s0 s : FS} {lev a k : Nat} (h : DrO w wr g s0 s lev a k) (hf : FlowIs w2 g { s with sv := clr s.sv lev a k (.slice none 0 0), SL := clr s.SL lev a k [] }) (ht : Touch (fun x => x = g) wr w2) : ∃ s, Way w w2 g s0 s ∧ Drained s0 s lev a k := by
  refine ⟨_, h.way.next hf ht (fun k hk => .inl hk) (fun x hx => .inl ?_), h.drn.C, h.drn.pv, h.drn.ps, h.drn.m, h.drn.bt, h.drn.GM, h.drn.av, h.drn.after, h.drn.TM, h.drn.told, fun l d hne => ?_, fun d h1 h2 => ?_, fun d hd => ?_⟩
  · rcases hx with hx | hx | hx | hx | ⟨l, d, hl, hd, hx⟩ | hx | hx
    · exact .inl hx
    · exact .inr (.inl hx)
    · exact .inr (.inr (.inl hx))
    · exact .inr (.inr (.inr (.inl hx)))
    · simp only [clr] at hx
      split at hx
      · cases hx
      · exact .inr (.inr (.inr (.inr (.inl ⟨l, d, hl, hd, hx⟩))))
    · exact .inr (.inr (.inr (.inr (.inr (.inl hx)))))
    · exact .inr (.inr (.inr (.inr (.inr (.inr hx)))))
  · show clr s.SL lev a k [] l d = _
    unfold clr
    rw [if_neg (fun hx => hne hx.1)]
    exact h.drn.SL l d hne
  · show clr s.SL lev a k [] lev d = _
    unfold clr
    rw [if_pos ⟨rfl, h1, h2⟩]
  · show clr s.SL lev a k [] lev d = _
    unfold clr
    rw [if_neg (by omega)]
    rcases hd with hd | hd
    · exact h.front d hd
    · exact h.rest d hd

set_option maxRecDepth 100000 in
set_option maxHeartbeats 4000000 in
theorem drain_any (g bx : Nat) (s0 : FS) (lev a k ad cap : Nat) (w : World) (h : FlowIs w g s0) (hbx : w.heap[bx]? = some (.cells #[.pointer (some ⟨g, 0, none⟩)] 25 (0, 0))) (hlev : lev < 16) (hk0 : 0 < k) (hak : a + k ≤ 16) (had : ad = 9 + lev * 16 + a) (D : DrainOk s0 lev a k) :
    Calls Tryz.prog 108 #[.pointer (some ⟨g, 7, none⟩), .slice (some ⟨g, ad, none⟩) k cap, .func (.func 74) #[] #[.pointer (some ⟨bx, 0, none⟩)]] w fun r w' => r = .returned (.tuple #[]) ∧ ∃ s, Way w w' g s0 s ∧ Drained s0 s lev a k := by
  have H := hideP h
  have HB := hideP hbx
  have HA := hideP had
  have HD := hideP D
  have i9 : (k : Int) ≤ 16 := by omega
  clear h hbx had D
  go_enter Tryz.func108, Tryz.ntmps108
  go_wp2
  go_loopw [12] (fun ii wr => ∃ i : Nat, i ≤ k ∧ ii = .int .i64 i ∧ ∃ s, Hid (DrO w wr g s0 s lev a i)) (fun ii _ => k - (intOf ii).toNat)
  case atStart => exact ⟨0, Nat.zero_le _, rfl, s0, DrO.start H.out lev a⟩
  case round =>
    obtain ⟨i, hi, rfl, s, HO⟩ := hrel
    by_cases hlt : i < k
    · have hai : a + i < 16 := by omega
      have c1 : wr.cell? ⟨g, ad + i, none⟩ = some (s.sv lev (a + i)) := by
        have := HO.out.way.fl.ob.atSlot hlev hai
        rw [HA.out, show 9 + lev * 16 + a + i = 9 + lev * 16 + (a + i) by omega]
        exact this
      have i1 : (0 : Int) ≤ (i : Int) := by omega
      have i2 : (i : Int) < (k : Int) := by omega
      have hl5 : (s.SL lev (a + i)).length ≤ 100000000 := by
        rw [HO.out.rest (a + i) (Nat.le_refl _)]
        have := HD.out.lens lev (a + i) hlev hai
        omega
      have SO := hideP (sort_any g s lev (a + i) wr HO.out.way.fl hlev hai hl5)
      obtain ⟨a5, c5, hsl⟩ := (HO.out.way.fl.slot lev (a + i) hlev hai).slice
      have HSL := hideP hsl
      rw [hsl] at c1
      have SO2 : Hid (Calls Tryz.prog 122 #[.slice a5 (s.SL lev (a + i)).length c5] wr fun r w' => r = .returned (.tuple #[]) ∧ FlowIs w' g { s with SL := upd s.SL lev (a + i) (sortI (s.SL lev (a + i))) } ∧ Touch (fun k => (s.sv lev (a + i)).ownBlock = some k) wr w') := by
        have := SO.out
        rw [hsl] at this ⊢
        exact this
      clear hsl SO
      go_wp2_with (go_at_call 122; refine SO2.out.mono ?_; rintro r w1 ⟨rfl, hf1, hto1⟩)
      have HI0 := hideP (HO.out.sorted hlev hai hf1 hto1)
      have hle : (s.SL lev (a + i)).length = (sortI (s0.SL lev (a + i))).length := by rw [sortI_len, HO.out.rest (a + i) (Nat.le_refl _)]
      have HSV : Hid (s0.sv lev (a + i) = .slice a5 (s.SL lev (a + i)).length c5) := by rw [← HO.out.drn.sv (a + i)]; exact HSL.out
      rw [hle] at HSV ⊢
      clear hf1 hto1 hle hl5 c1
      obtain ⟨es, hes⟩ : ∃ es, es = sortI (s0.SL lev (a + i)) := ⟨_, rfl⟩
      rw [← hes] at HI0 HSV ⊢
      have hel : es.length ≤ 100000000 := by
        rw [hes, sortI_len]
        have := HD.out.lens lev (a + i) hlev hai
        omega
      have HES := hideP hes
      clear hes SO2 HSL
      generalize wr = wA at *
      go_loopw [20] (fun jj wr => ∃ j : Nat, j ≤ es.length ∧ jj = .int .i64 j ∧ ∃ s, Hid (DrI w wr g s0 s lev a i j es)) (fun jj _ => es.length - (intOf jj).toNat)
      case atStart => exact ⟨0, Nat.zero_le _, rfl, _, HI0⟩
      case round =>
        obtain ⟨j, hj, rfl, s2, HI⟩ := hrel
        by_cases hlj : j < es.length
        · obtain ⟨e, hx⟩ : ∃ e, es[j]? = some e := ⟨_, List.getElem?_eq_getElem hlj⟩
          have hrow := HI.out.way.fl.slot lev (a + i) hlev hai
          rw [HI.out.here, HI.out.drn.sv (a + i), HSV.out] at hrow
          obtain ⟨rb, cp, ev, -, hrb, hc, -⟩ := hrow.at inC_len hx
          simp only [Value.slice.injEq] at ev
          obtain ⟨rfl, -, rfl⟩ := ev
          have m0 : wr.cell? ⟨rb, j, none⟩ = some (.int .i64 e) := by
            have := hc 0 (by omega)
            simpa [inC] using this
          have RR : DrR s0 s2 lev a k i j e := by
            have h1 := HI.out
            rw [HES.out] at h1 hx
            exact h1.round HD.out hlt hx
          have c7 := HI.out.way.fl.ob.at7
          rw [HI.out.drn.m] at c7
          have c8 := HI.out.way.fl.ob.at8
          have HX := hideP hx
          have j1 : (0 : Int) ≤ (j : Int) := by omega
          have j2 : (j : Int) < (es.length : Int) := by omega
          have HRR := hideP RR
          have ht := HD.out.time e RR.mem
          clear hx hc hrow RR
          by_cases hm : s0.m < e
          · have hoff := HD.out.off e HRR.out.mem hm
            have hmn : s0.m ≠ e := by omega
            obtain ⟨l, hl⟩ : ∃ l, Wh.levF (Wh.rk s0.m) (Wh.rk e) = l := ⟨_, rfl⟩
            obtain ⟨d, hd⟩ : ∃ d, Wh.dig l (Wh.rk e) = d := ⟨_, rfl⟩
            have hl16 : l < 16 := by rw [← hl]; exact lev_lt HD.out.m ht hmn
            have hd16 : d < 16 := by rw [← hd]; exact Wh.dig_lt _ _
            rw [hl] at hoff
            have PL := hideP (place_any g s2 e l d wr HI.out.way.fl (by rw [HI.out.drn.m]; exact HD.out.m) ht (by rw [HI.out.drn.m]; exact hmn) (by rw [HI.out.drn.m]; exact hl) hd (HRR.out.len l d hoff hl16 hd16))
            have HL := hideP hl
            have HDG := hideP hd
            clear hl hd
            go_wp2_with (go_at_call 101; refine PL.out.mono ?_; rintro r w2 ⟨rfl, v2, hf2, hto2, hv2⟩)
            have HI2 := hideP (HI.out.place HX.out hm HL.out HDG.out hoff hl16 hd16 hf2 hto2 hv2)
            clear hf2 hto2 hv2 PL
            go_roundw
            case rel => exact ⟨j + 1, by omega, by go_num, _, HI2⟩
            case measure => simp [intOf]; omega
          · have hle : e ≤ s0.m := by omega
            obtain ⟨tb, htb⟩ := HRR.out.tm hle
            obtain ⟨-, hfs, hkey⟩ := HD.out.over e HRR.out.mem hle
            obtain ⟨kk, hkl, hkk⟩ := HD.out.kk
            have HTB := hideP htb
            have TE := hideP (tell_any g bx s2 e tb wr HI.out.way.fl (HI.out.way.box H.out HB.out) htb (by rw [HI.out.drn.C]; exact hfs) kk (fun x hx => hkk e x (by rw [← HI.out.drn.GM]; exact hx)) hkl (by rw [HI.out.drn.GM]; exact hkey) HRR.out.told)
            clear htb hfs hkey hkk hkl
            go_wp2_with (first
              | (at_lookup; refine wpList_tls_look _ rfl _ _ rfl s2.bt s2.TM e rfl HI.out.way.fl.tls rfl ht ?_; rw [HTB.out])
              | (go_at_call 74; refine TE.out.mono ?_; rintro r w2 ⟨rfl, ks, v2, hka, hf2, hto2, hv2⟩; have c82 := hf2.ob.at8; have F2 := hideP hf2; clear hf2)
              | (at_delete; refine wpList_tls_del _ rfl _ _ rfl s2.bt s2.TM e rfl F2.out.tls rfl ht ?_; intro w3 ht3 hto3))
            have HI2 := hideP (HI.out.tell HX.out hle hka hto2 hv2 (F2.out.deleted hto3 ht3) hto3)
            clear hka hto2 hv2 ht3 hto3 F2 TE
            go_roundw
            case rel => exact ⟨j + 1, by omega, by go_num, _, HI2⟩
            case measure => simp [intOf]; omega
        · have ej : j = es.length := by omega
          have HO2 := hideP (HI.out.done HES.out ej)
          clear HI
          go_wp2
          go_roundw
          case rel => exact ⟨i + 1, by omega, by go_num, _, HO2⟩
          case measure => simp [intOf]; omega
    · have ei : i = k := by omega
      subst ei
      have cc : ∀ j, j < i → (wr.cell? ⟨g, ad + j, none⟩).isSome = true := fun j hj => by
        have := HO.out.way.fl.ob.atSlot hlev (show a + j < 16 by omega)
        rw [HA.out, show 9 + lev * 16 + a + j = 9 + lev * 16 + (a + j) by omega, this]
        rfl
      have cf : ∀ j, j < i → wr.frozen? ⟨g, ad + j, none⟩ = false := fun j _ => HO.out.way.fl.ob.frozen _
      have CL := FlowIs.clears (g := g) hlev i a s wr HO.out.way.fl hak
      rw [← HA.out] at CL
      have HCL := hideP CL
      clear CL
      go_wp2_with (refine wpList_clear _ rfl _ rfl g ad i cap hk0 rfl cc cf ?_)
      go_end0
      exact ⟨rfl, HO.out.cleared HCL.out.1 HCL.out.2⟩
end Go.Proofs.YtnnoaolceeendaaGreatDoor
