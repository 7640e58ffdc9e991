import Derived.Test.YtgepipnbfgdjkaaGreatDoorFlwB
namespace Go.Proofs.YtgepipnbfgdjkaaGreatDoor
open Go.ChangeShapes Go.WideShapes Go.ChangeAt Go.RowKit

theorem zeroTal (w : World) : (zeroValue 101).run Tryz.prog w = .ok (.map none) w := by kernel_rfl
theorem zeroInt (w : World) : (zeroValue 3).run Tryz.prog w = .ok (.int .i64 0) w := by kernel_rfl

theorem eqMap_some (b : Nat) (w : World) : (binOp .eql 101 (.map (some b)) (.map none)).run Tryz.prog w = .ok (.bool false) w := by kernel_rfl
theorem eqMap_none (w : World) : (binOp .eql 101 (.map none) (.map none)).run Tryz.prog w = .ok (.bool true) w := by kernel_rfl

theorem key_int {e : Int} (h : fits e) : keyOf Tryz.prog 3 (.int .i64 e) = some (.int .i64 e) := Maps.keyOf_int_mk Tryz.underlying3 (fits_wf h)
theorem key_str {s : ByteArray} (h : s.size ≤ maxLen) : keyOf Tryz.prog 9 (.string s) = some (strL s) := Go.WideMaps.keyOf_string_mk Tryz.underlying9 h

section
variable (w : World) {ops : Array Oper} {rest : List Oper} {o : Oper} {a : Act} {Q : Exit → Act → World → Prop}

/-- 'w.tallies[end]'. -/
theorem wpList_tls_look (hg : o.guard = none) (m x : Operand) (hop : o.op = Op.lookup 49 m x false) (b : Nat) (TM : Int → Option Nat) (e : Int) (hm : a.eval m = .map (some b)) (hown : TlsAt w b TM) (hx : a.eval x = .int .i64 e) (he : fits e)
    (hK : wpList Tryz.prog ops Q rest (a.put o.dst (.map (TM e))) w) : wpList Tryz.prog ops Q (o :: rest) a w := by
  refine wpList_plain hg fun K' hK' => ?_
  obtain ⟨D, h1, h2⟩ := hown
  obtain ⟨v, ps, hrun, hv⟩ := h1.lookup keyI Tryz.underlying49 (zeroTal w) (show refElem (.map none) = some (.nil, []) from rfl) (key_int he)
  have hv := h2.find e hv
  subst hv
  unfold Oper.wp
  simp [execOp, hop, hm, hx, hrun, Result.andThen]
  exact hK' _ _ hK

/-- 'w.tallies[end] = t'. -/
theorem wpList_tls_put (hg : o.guard = none) (m x v : Operand) (hop : o.op = Op.mapUpdate 49 m x v) (b : Nat) (TM : Int → Option Nat) (e : Int) (c : Nat) (hm : a.eval m = .map (some b)) (hown : TlsAt w b TM) (hx : a.eval x = .int .i64 e) (hv : a.eval v = .map (some c)) (he : fits e) (ks : List Int) (hks : ∀ e, (TM e).isSome = true → e ∈ ks) (hkl : ks.length ≤ 100000000)
    (hK : ∀ w', TlsAt w' b (putM TM e c) → Touch (fun k => k = b) w w' → wpList Tryz.prog ops Q rest (a.put o.dst undef) w') : wpList Tryz.prog ops Q (o :: rest) a w := by
  obtain ⟨D, h1, h2⟩ := hown
  have hsz := h2.size_le h1 hks
  refine Go.wpList_mapUpdate_in w hg m x v 49 hop 3 101 keyI Tryz.underlying49 refElem b _ D hm h1 (by unfold maxLen; omega) _ _ _ hx hv (key_int he) _ [] rfl (fun w' hw ht => hK w' ⟨_, ownsMap_size hw, h2.put h1.isMap he⟩ (Touch.grown ht.grown (fun k hk => by simpa using hk.symm)))

/-- 'delete(w.tallies, end)'. -/
theorem wpList_tls_del (hg : o.guard = none) (m x : Operand) (hop : o.op = Op.call { callee := Callee.builtin Builtin.delete, args := #[m, x], argTypes := #[49, 3] }) (b : Nat) (TM : Int → Option Nat) (e : Int) (hm : a.eval m = .map (some b)) (hown : TlsAt w b TM) (hx : a.eval x = .int .i64 e) (he : fits e)
    (hK : ∀ w', TlsAt w' b (delM TM e) → Touch (fun k => k = b) w w' → wpList Tryz.prog ops Q rest (a.put o.dst (.tuple #[])) w') : wpList Tryz.prog ops Q (o :: rest) a w := by
  obtain ⟨D, h1, h2⟩ := hown
  refine Go.wpList_delete_own w hg m x 49 3 hop 101 keyI Tryz.underlying49 refElem b _ D hm h1 _ _ hx (key_int he) (fun w' hw ht => hK w' ⟨_, ownsMap_size hw, h2.del e⟩ (Touch.grown ht.grown (fun k hk => by simpa using hk.symm)))

/-- 't[key]', with and without 'found'. -/
theorem wpList_tal_ok (hg : o.guard = none) (m x : Operand) (hop : o.op = Op.lookup 101 m x true) (b : Nat) (G : ByteArray → Option Int) (s : ByteArray) (hm : a.eval m = .map (some b)) (hown : TalAt w b G) (hx : a.eval x = .string s) (hs : s.size ≤ maxLen)
    (hK : wpList Tryz.prog ops Q rest (a.put o.dst (.tuple #[.int .i64 ((G s).getD 0), .bool (G s).isSome])) w) : wpList Tryz.prog ops Q (o :: rest) a w := by
  obtain ⟨D, h1, h2⟩ := hown
  refine Go.wpList_lookup_own_ok_int w hg m x 101 hop 9 3 .i64 keyS Tryz.underlying101 Tryz.underlying3 (zeroInt w) b _ D hm h1 _ _ hx (key_str hs) (fun c hc _ => ?_)
  rw [h2.at s] at hc
  simp only [DataW.lit.injEq, Lit.int.injEq, true_and] at hc
  rw [← hc, h2.has s]
  exact hK
theorem wpList_tal_look (hg : o.guard = none) (m x : Operand) (hop : o.op = Op.lookup 101 m x false) (b : Nat) (G : ByteArray → Option Int) (s : ByteArray) (hm : a.eval m = .map (some b)) (hown : TalAt w b G) (hx : a.eval x = .string s) (hs : s.size ≤ maxLen)
    (hK : wpList Tryz.prog ops Q rest (a.put o.dst (.int .i64 ((G s).getD 0))) w) : wpList Tryz.prog ops Q (o :: rest) a w := by
  obtain ⟨D, h1, h2⟩ := hown
  refine Go.wpList_lookup_own_int w hg m x 101 hop 9 3 .i64 keyS Tryz.underlying101 Tryz.underlying3 (zeroInt w) b _ D hm h1 _ _ hx (key_str hs) (fun c hc _ => ?_)
  rw [h2.at s] at hc
  simp only [DataW.lit.injEq, Lit.int.injEq, true_and] at hc
  rw [← hc]
  exact hK
/-- 't[key] = n'. -/
theorem wpList_tal_put (hg : o.guard = none) (m x v : Operand) (hop : o.op = Op.mapUpdate 101 m x v) (b : Nat) (G : ByteArray → Option Int) (s : ByteArray) (n : Int) (hm : a.eval m = .map (some b)) (hown : TalAt w b G) (hx : a.eval x = .string s) (hv : a.eval v = .int .i64 n) (hs : s.size ≤ maxLen) (hn : fits n) (ks : List ByteArray) (hks : ∀ s, (G s).isSome = true → s ∈ ks) (hkl : ks.length ≤ 100000000)
    (hK : ∀ w', TalAt w' b (putG G s n) → Touch (fun k => k = b) w w' → wpList Tryz.prog ops Q rest (a.put o.dst undef) w') : wpList Tryz.prog ops Q (o :: rest) a w := by
  obtain ⟨D, h1, h2⟩ := hown
  have hsz := h2.size_le h1 hks
  refine Go.wpList_mapUpdate_in w hg m x v 101 hop 9 3 keyS Tryz.underlying101 _ b _ D hm h1 (by unfold maxLen; omega) _ _ _ hx hv (key_str hs) _ [] (plainElem_int Tryz.underlying3 (fits_wf hn)) (fun w' hw ht => hK w' ⟨_, ownsMap_size hw, h2.put h1.isMap hs hn⟩ (Touch.grown ht.grown (fun k hk => by simpa using hk.symm)))
end

section
variable {w w' : World} {g : Nat} {s : FS}
/-- A new tally. -/
theorem FlowIs.talled (h : FlowIs w g s) {e : Int} {b : Nat} (hn : s.TM e = none) (hb : w.heap.size ≤ b) (ht : Touch (fun k => k = s.bt) w w') (h1 : TlsAt w' s.bt (putM s.TM e b)) (h2 : TalAt w' b (s.GM e)) : FlowIs w' g { s with TM := putM s.TM e b } := by
  have hk : ∀ K k, K ≠ .tls → kd g s K k → w'.heap[k]? = w.heap[k]? := fun K k hK hk => ht.block k (h.foot_lt (foot_kd.2 ⟨K, hk⟩)) (fun hx => hK (kd_inj h hk (show kd g s .tls k from hx)))
  have hbt := h.tls.lt
  refine ⟨(h.ob.agree (hk .flow g (by simp) rfl)).like (fun _ _ => rfl), h.parts.agree (fun k hk' => hk .part k (by simp) hk'), h1, fun x c hc => ?_, fun x c hc => ?_, fun l d hl hd => (h.slot l d hl hd).agree (fun k hk' => hk (.slot l d) k (by simp) ⟨hl, hd, hk'⟩), h.sin, h.told.agree (fun k hk' => hk .pane k (by simp) hk'), h.late.agree (fun k hk' => hk .event k (by simp) hk')⟩
  · simp only [putM] at hc
    split at hc
    · rename_i ex
      subst ex
      simp only [Option.some.injEq] at hc
      subst hc
      exact h2
    · exact (h.tal x c hc).agree (hk (.tal x) c (by simp) hc)
  · simp only [putM] at hc ⊢
    split at hc
    · rename_i ex
      subst ex
      simp only [Option.some.injEq] at hc
      subst hc
      refine ⟨by omega, fun y hy => ?_⟩
      split at hy
      · assumption
      · have := (h.tal y b hy).lt; omega
    · refine ⟨(h.tin x c hc).1, fun y hy => ?_⟩
      split at hy
      · simp only [Option.some.injEq] at hy
        subst hy
        have := (h.tal x b hc).lt
        omega
      · exact (h.tin x c hc).2 y hy
end

/-- The slots behind 'waiting'. -/
def waitSL (s : FS) (e : Int) (l d : Nat) : Nat → Nat → List Int := if s.TM e = none then upd s.SL l d (s.SL l d ++ [e]) else s.SL

theorem putM_same {TM : Int → Option Nat} {e : Int} {b : Nat} (h : TM e = some b) : putM TM e b = TM := by
  funext x
  unfold putM
  split
  · rename_i ex; subst ex; exact h.symm
  · rfl

set_option maxRecDepth 100000 in
set_option maxHeartbeats 2000000 in
theorem waiting_any (g : Nat) (s : FS) (e : Int) (l d : Nat) (w : World) (h : FlowIs w g s) (hm : Wh.IsT s.m) (he : Wh.IsT e) (hne : s.m ≠ e) (hl : Wh.levF (Wh.rk s.m) (Wh.rk e) = l) (hd : Wh.dig l (Wh.rk e) = d) (hlen : (s.SL l d).length ≤ 100000000) (hG : s.TM e = none → s.GM e = fun _ => none) (ks : List Int) (hks : ∀ e, (s.TM e).isSome = true → e ∈ ks) (hkl : ks.length ≤ 100000000) :
    Calls Tryz.prog 46 #[.pointer (some ⟨g, 7, none⟩), .int .i64 e] w fun r w' => ∃ b, r = .returned (.map (some b)) ∧ ∃ sv', FlowIs w' g { s with TM := putM s.TM e b, sv := sv', SL := waitSL s e l d } ∧ Touch (foot g s) w w' ∧ ∀ k, foot g { s with TM := putM s.TM e b, sv := sv' } k → foot g s k ∨ w.heap.size ≤ k := by
  have c8 := h.ob.at8
  have H := hideP h
  have hmm := @run_makeMap Tryz.prog
  have hgz := h.ob.lt
  have q1 := eqMap_some
  have q2 := eqMap_none
  obtain ⟨o, hT⟩ : ∃ o, s.TM e = o := ⟨_, rfl⟩
  cases o with
  | some b =>
    have HT := hideP hT
    clear h hT
    go_enter Tryz.func46, Tryz.ntmps46
    go_wp2_with (at_lookup; refine wpList_tls_look _ rfl _ _ rfl s.bt s.TM e rfl H.out.tls rfl he ?_; rw [HT.out])
    go_ret
    refine ⟨b, rfl, s.sv, ?_, Touch.refl _ _, fun k hk => .inl ?_⟩
    · rw [putM_same HT.out, waitSL, if_neg (by rw [HT.out]; simp)]
      exact H.out
    · simp only [putM_same HT.out] at hk
      exact hk
  | none =>
    have HT := hideP hT
    have HG := hideP (hG hT)
    clear h hT hG
    go_enter Tryz.func46, Tryz.ntmps46
    have hA : Below w.heap.size w (w.alloc (.map #[] 0)) := (Below.refl _ _).alloc (Nat.le_refl _) _
    have hbt := H.out.tls.lt
    have HA := hideP hA
    clear hA
    go_wp2_with (first
      | (at_lookup; refine wpList_tls_look _ rfl _ _ rfl s.bt s.TM e rfl H.out.tls rfl he ?_; rw [HT.out])
      | (at_mapUpdate; refine wpList_tls_put _ rfl _ _ _ rfl s.bt s.TM e w.heap.size rfl (H.out.tls.agree (HA.out.block _ hbt)) rfl rfl he ks hks hkl ?_; intro w1 ht1 hto1; have HT1 := hideP ht1; have HO1 := hideP hto1; clear ht1 hto1)
      | (go_at_call 57; fail))
    have T1 : Touch (fun k => k = s.bt) w w1 := (Touch.of_below HA.out).trans HO1.out (fun _ h => .inl h)
    have hT1 := hideP (T1)
    have F1 : FlowIs w1 g { s with TM := putM s.TM e w.heap.size } := H.out.talled HT.out (Nat.le_refl _) T1 HT1.out (by
      rw [HG.out]
      exact (TalAt.made w).agree (HO1.out.block _ (by simp) (by omega)))
    have P := place_any g _ e l d w1 F1 hm he hne hl hd hlen
    refine P.mono ?_
    rintro r w2 ⟨rfl, v', hF, hTo, hv⟩
    have HF := hideP hF
    have HTo := hideP hTo
    have HV := hideP hv
    clear hF hTo hv P F1 T1
    go_wp2
    go_ret
    refine ⟨w.heap.size, rfl, upd s.sv l d v', ?_, hT1.out.mono (fun k hk => .inr (.inr (.inl hk))) |>.trans HTo.out (fun k hk => .inl ?_), fun k hk => ?_⟩
    · rw [waitSL, if_pos HT.out]
      exact HF.out
    · rcases hk with hk | hk
      · exact .inl hk
      · refine .inr (.inr (.inr (.inr (.inl ⟨l, d, ?_, ?_, hk⟩))))
        · rw [← hl]; exact lev_lt hm he hne
        · rw [← hd]; exact Wh.dig_lt _ _
    · rcases hk with hk | hk | hk | ⟨x, hk⟩ | ⟨a, b, ha, hb, hk⟩ | hk | hk
      · exact .inl (.inl hk)
      · exact .inl (.inr (.inl hk))
      · exact .inl (.inr (.inr (.inl hk)))
      · simp only [putM] at hk
        split at hk
        · simp only [Option.some.injEq] at hk
          exact .inr (by omega)
        · exact .inl (.inr (.inr (.inr (.inl ⟨x, hk⟩))))
      · by_cases ex : a = l ∧ b = d
        · obtain ⟨rfl, rfl⟩ := ex
          simp only [upd_same] at hk
          rcases HV.out k hk with hk | hk
          · exact .inl (.inr (.inr (.inr (.inr (.inl ⟨a, b, ha, hb, hk⟩)))))
          · exact .inr (Nat.le_trans hT1.out.size hk)
        · simp only [upd_other _ _ ex] at hk
          exact .inl (.inr (.inr (.inr (.inr (.inl ⟨a, b, ha, hb, hk⟩)))))
      · exact .inl (.inr (.inr (.inr (.inr (.inr (.inl hk))))))
      · exact .inl (.inr (.inr (.inr (.inr (.inr (.inr hk))))))
end Go.Proofs.YtgepipnbfgdjkaaGreatDoor
