import Derived.Test.YtnnoaolceeendaaGreatDoorFlwB
namespace Go.Proofs.YtnnoaolceeendaaGreatDoor
open Go.ChangeShapes Go.WideShapes Go.ChangeAt Go.RowKit

theorem zeroTal (w : World) : (zeroValue 144).run Tryz.prog w = .ok (.map none) w := by kernel_rfl
theorem zeroInt (w : World) : (zeroValue 3).run Tryz.prog w = .ok (.int .i64 0) w := by kernel_rfl

theorem eqMap_some (b : Nat) (w : World) : (binOp .eql 144 (.map (some b)) (.map none)).run Tryz.prog w = .ok (.bool false) w := by kernel_rfl
theorem eqMap_none (w : World) : (binOp .eql 144 (.map none) (.map none)).run Tryz.prog w = .ok (.bool true) w := by kernel_rfl

theorem key_int {e : Int} (h : fits e) : keyOf Tryz.prog 3 (.int .i64 e) = some (.int .i64 e) := Maps.keyOf_int_mk Tryz.underlying3 (fits_wf h)
theorem key_str {s : ByteArray} (h : s.size ≤ maxLen) : keyOf Tryz.prog 9 (.string s) = some (strL s) := Go.WideMaps.keyOf_string_mk Tryz.underlying9 h

section
variable (w : World) {ops : Array Oper} {rest : List Oper} {o : Oper} {a : Act} {Q : Exit → Act → World → Prop}

/-- 'w.tallies[end]'. -/
theorem wpList_tls_look (hg : o.guard = none) (m x : Operand) (hop : o.op = Op.lookup 76 m x false) (b : Nat) (TM : Int → Option Nat) (e : Int) (hm : a.eval m = .map (some b)) (hown : TlsAt w b TM) (hx : a.eval x = .int .i64 e) (he : fits e)
    (hK : wpList Tryz.prog ops Q rest (a.put o.dst (.map (TM e))) w) : wpList Tryz.prog ops Q (o :: rest) a w := by
  refine wpList_plain hg fun K' hK' => ?_
  obtain ⟨D, h1, h2⟩ := hown
  obtain ⟨v, ps, hrun, hv⟩ := h1.lookup keyI Tryz.underlying76 (zeroTal w) (show refElem (.map none) = some (.nil, []) from rfl) (key_int he)
  have hv := h2.find e hv
  subst hv
  unfold Oper.wp
  simp [execOp, hop, hm, hx, hrun, Result.andThen]
  exact hK' _ _ hK

/-- 'w.tallies[end] = t'. -/
theorem wpList_tls_put (hg : o.guard = none) (m x v : Operand) (hop : o.op = Op.mapUpdate 76 m x v) (b : Nat) (TM : Int → Option Nat) (e : Int) (c : Nat) (hm : a.eval m = .map (some b)) (hown : TlsAt w b TM) (hx : a.eval x = .int .i64 e) (hv : a.eval v = .map (some c)) (he : fits e) (ks : List Int) (hks : ∀ e, (TM e).isSome = true → e ∈ ks) (hkl : ks.length ≤ 100000000)
    (hK : ∀ w', TlsAt w' b (putM TM e c) → Touch (fun k => k = b) w w' → wpList Tryz.prog ops Q rest (a.put o.dst undef) w') : wpList Tryz.prog ops Q (o :: rest) a w := by
  obtain ⟨D, h1, h2⟩ := hown
  have hsz := h2.size_le h1 hks
  refine Go.wpList_mapUpdate_in w hg m x v 76 hop 3 144 keyI Tryz.underlying76 refElem b _ D hm h1 (by unfold maxLen; omega) _ _ _ hx hv (key_int he) _ [] rfl (fun w' hw ht => hK w' ⟨_, ownsMap_size hw, h2.put h1.isMap he⟩ (Touch.grown ht.grown (fun k hk => by simpa using hk.symm)))

/-- 'delete(w.tallies, end)'. -/
theorem wpList_tls_del (hg : o.guard = none) (m x : Operand) (hop : o.op = Op.call { callee := Callee.builtin Builtin.delete, args := #[m, x], argTypes := #[76, 3] }) (b : Nat) (TM : Int → Option Nat) (e : Int) (hm : a.eval m = .map (some b)) (hown : TlsAt w b TM) (hx : a.eval x = .int .i64 e) (he : fits e)
    (hK : ∀ w', TlsAt w' b (delM TM e) → Touch (fun k => k = b) w w' → wpList Tryz.prog ops Q rest (a.put o.dst (.tuple #[])) w') : wpList Tryz.prog ops Q (o :: rest) a w := by
  obtain ⟨D, h1, h2⟩ := hown
  refine Go.wpList_delete_own w hg m x 76 3 hop 144 keyI Tryz.underlying76 refElem b _ D hm h1 _ _ hx (key_int he) (fun w' hw ht => hK w' ⟨_, ownsMap_size hw, h2.del e⟩ (Touch.grown ht.grown (fun k hk => by simpa using hk.symm)))

/-- 't[key]', with and without 'found'. -/
theorem wpList_tal_ok (hg : o.guard = none) (m x : Operand) (hop : o.op = Op.lookup 144 m x true) (b : Nat) (G : ByteArray → Option Int) (s : ByteArray) (hm : a.eval m = .map (some b)) (hown : TalAt w b G) (hx : a.eval x = .string s) (hs : s.size ≤ maxLen)
    (hK : wpList Tryz.prog ops Q rest (a.put o.dst (.tuple #[.int .i64 ((G s).getD 0), .bool (G s).isSome])) w) : wpList Tryz.prog ops Q (o :: rest) a w := by
  obtain ⟨D, h1, h2⟩ := hown
  refine Go.wpList_lookup_own_ok_int w hg m x 144 hop 9 3 .i64 keyS Tryz.underlying144 Tryz.underlying3 (zeroInt w) b _ D hm h1 _ _ hx (key_str hs) (fun c hc _ => ?_)
  rw [h2.at s] at hc
  simp only [DataW.lit.injEq, Lit.int.injEq, true_and] at hc
  rw [← hc, h2.has s]
  exact hK
theorem wpList_tal_look (hg : o.guard = none) (m x : Operand) (hop : o.op = Op.lookup 144 m x false) (b : Nat) (G : ByteArray → Option Int) (s : ByteArray) (hm : a.eval m = .map (some b)) (hown : TalAt w b G) (hx : a.eval x = .string s) (hs : s.size ≤ maxLen)
    (hK : wpList Tryz.prog ops Q rest (a.put o.dst (.int .i64 ((G s).getD 0))) w) : wpList Tryz.prog ops Q (o :: rest) a w := by
  obtain ⟨D, h1, h2⟩ := hown
  refine Go.wpList_lookup_own_int w hg m x 144 hop 9 3 .i64 keyS Tryz.underlying144 Tryz.underlying3 (zeroInt w) b _ D hm h1 _ _ hx (key_str hs) (fun c hc _ => ?_)
  rw [h2.at s] at hc
  simp only [DataW.lit.injEq, Lit.int.injEq, true_and] at hc
  rw [← hc]
  exact hK
/-- 't[key] = n'. -/
theorem wpList_tal_put (hg : o.guard = none) (m x v : Operand) (hop : o.op = Op.mapUpdate 144 m x v) (b : Nat) (G : ByteArray → Option Int) (s : ByteArray) (n : Int) (hm : a.eval m = .map (some b)) (hown : TalAt w b G) (hx : a.eval x = .string s) (hv : a.eval v = .int .i64 n) (hs : s.size ≤ maxLen) (hn : fits n) (ks : List ByteArray) (hks : ∀ s, (G s).isSome = true → s ∈ ks) (hkl : ks.length ≤ 100000000)
    (hK : ∀ w', TalAt w' b (putG G s n) → Touch (fun k => k = b) w w' → wpList Tryz.prog ops Q rest (a.put o.dst undef) w') : wpList Tryz.prog ops Q (o :: rest) a w := by
  obtain ⟨D, h1, h2⟩ := hown
  have hsz := h2.size_le h1 hks
  refine Go.wpList_mapUpdate_in w hg m x v 144 hop 9 3 keyS Tryz.underlying144 _ b _ D hm h1 (by unfold maxLen; omega) _ _ _ hx hv (key_str hs) _ [] (plainElem_int Tryz.underlying3 (fits_wf hn)) (fun w' hw ht => hK w' ⟨_, ownsMap_size hw, h2.put h1.isMap hs hn⟩ (Touch.grown ht.grown (fun k hk => by simpa using hk.symm)))
end

section
variable {w w' : World} {g : Nat} {s : FS}
/-- A new tally. -/
theorem FlowIs.talled (h : FlowIs w g s) {e : Int} {b : Nat} (hn : s.TM e = none) (hb : w.heap.size ≤ b) (ht : Touch (fun k => k = s.bt) w w') (h1 : TlsAt w' s.bt (putM s.TM e b)) (h2 : TalAt w' b (s.GM e)) : FlowIs w' g { s with TM := putM s.TM e b } := by
  have hk : ∀ K k, K ≠ .tls → kd g s K k → w'.heap[k]? = w.heap[k]? := fun K k hK hk => ht.block k (h.foot_lt (foot_kd.2 ⟨K, hk⟩)) (fun hx => hK (kd_inj h hk (show kd g s .tls k from hx)))
  have hbt := h.tls.lt
  refine ⟨(h.ob.agree (hk .flow g (by simp) rfl)).like (fun _ _ => rfl), h.parts.agree (fun k hk' => hk .part k (by simp) hk'), h1, fun x c hc => ?_, fun x c hc => ?_, fun l d hl hd => (h.slot l d hl hd).agree (fun k hk' => hk (.slot l d) k (by simp) ⟨hl, hd, hk'⟩), h.sin, h.told.agree (fun k hk' => hk .pane k (by simp) hk'), h.late.agree (fun k hk' => hk .event k (by simp) hk')⟩
  · simp only [putM] at hc
    split at hc
    · rename_i ex
      subst ex
      simp only [Option.some.injEq] at hc
      subst hc
      exact h2
    · exact (h.tal x c hc).agree (hk (.tal x) c (by simp) hc)
  · simp only [putM] at hc ⊢
    split at hc
    · rename_i ex
      subst ex
      simp only [Option.some.injEq] at hc
      subst hc
      refine ⟨by omega, fun y hy => ?_⟩
      split at hy
      · assumption
      · have := (h.tal y b hy).lt; omega
    · refine ⟨(h.tin x c hc).1, fun y hy => ?_⟩
      split at hy
      · simp only [Option.some.injEq] at hy
        subst hy
        have := (h.tal x b hc).lt
        omega
      · exact (h.tin x c hc).2 y hy
end

/-- The slots behind 'waiting'. -/
def waitSL (s : FS) (e : Int) (l d : Nat) : Nat → Nat → List Int := if s.TM e = none then upd s.SL l d (s.SL l d ++ [e]) else s.SL

theorem putM_same {TM : Int → Option Nat} {e : Int} {b : Nat} (h : TM e = some b) : putM TM e b = TM := by
  funext x
  unfold putM
  split
  · rename_i ex; subst ex; exact h.symm
  · rfl

set_option maxRecDepth 100000 in
set_option maxHeartbeats 2000000 in
theorem waiting_any (g : Nat) (s : FS) (e : Int) (l d : Nat) (w : World) (h : FlowIs w g s) (hm : Wh.IsT s.m) (he : Wh.IsT e) (hne : s.m ≠ e) (hl : Wh.levF (Wh.rk s.m) (Wh.rk e) = l) (hd : Wh.dig l (Wh.rk e) = d) (hlen : (s.SL l d).length ≤ 100000000) (hG : s.TM e = none → s.GM e = fun _ => none) (ks : List Int) (hks : ∀ e, (s.TM e).isSome = true → e ∈ ks) (hkl : ks.length ≤ 100000000) :
    Calls Tryz.prog 70 #[.pointer (some ⟨g, 7, none⟩), .int .i64 e] w fun r w' => ∃ b, r = .returned (.map (some b)) ∧ ∃ sv', FlowIs w' g { s with TM := putM s.TM e b, sv := sv', SL := waitSL s e l d } ∧ Touch (foot g s) w w' ∧ ∀ k, foot g { s with TM := putM s.TM e b, sv := sv' } k → foot g s k ∨ w.heap.size ≤ k := by
  have c8 := h.ob.at8
  have H := hideP h
  have hmm := @run_makeMap Tryz.prog
  have hgz := h.ob.lt
  have q1 := eqMap_some
  have q2 := eqMap_none
  obtain ⟨o, hT⟩ : ∃ o, s.TM e = o := ⟨_, rfl⟩
  cases o with
  | some b =>
    have HT := hideP hT
    clear h hT
    go_enter Tryz.func70, Tryz.ntmps70
    go_wp2_with (at_lookup; refine wpList_tls_look _ rfl _ _ rfl s.bt s.TM e rfl H.out.tls rfl he ?_; rw [HT.out])
    go_ret
    refine ⟨b, rfl, s.sv, ?_, Touch.refl _ _, fun k hk => .inl ?_⟩
    · rw [putM_same HT.out, waitSL, if_neg (by rw [HT.out]; simp)]
      exact H.out
    · simp only [putM_same HT.out] at hk
      exact hk
  | none =>
    have HT := hideP hT
    have HG := hideP (hG hT)
    clear h hT hG
    go_enter Tryz.func70, Tryz.ntmps70
    have hA : Below w.heap.size w (w.alloc (.map #[] 0)) := (Below.refl _ _).alloc (Nat.le_refl _) _
    have hbt := H.out.tls.lt
    have HA := hideP hA
    clear hA
    go_wp2_with (first
      | (at_lookup; refine wpList_tls_look _ rfl _ _ rfl s.bt s.TM e rfl H.out.tls rfl he ?_; rw [HT.out])
      | (at_mapUpdate; refine wpList_tls_put _ rfl _ _ _ rfl s.bt s.TM e w.heap.size rfl (H.out.tls.agree (HA.out.block _ hbt)) rfl rfl he ks hks hkl ?_; intro w1 ht1 hto1; have HT1 := hideP ht1; have HO1 := hideP hto1; clear ht1 hto1)
      | (go_at_call 101; fail))
    have T1 : Touch (fun k => k = s.bt) w w1 := (Touch.of_below HA.out).trans HO1.out (fun _ h => .inl h)
    have hT1 := hideP (T1)
    have F1 : FlowIs w1 g { s with TM := putM s.TM e w.heap.size } := H.out.talled HT.out (Nat.le_refl _) T1 HT1.out (by
      rw [HG.out]
      exact (TalAt.made w).agree (HO1.out.block _ (by simp) (by omega)))
    have P := place_any g _ e l d w1 F1 hm he hne hl hd hlen
    refine P.mono ?_
    rintro r w2 ⟨rfl, v', hF, hTo, hv⟩
    have HF := hideP hF
    have HTo := hideP hTo
    have HV := hideP hv
    clear hF hTo hv P F1 T1
    go_wp2
    go_ret
    refine ⟨w.heap.size, rfl, upd s.sv l d v', ?_, hT1.out.mono (fun k hk => .inr (.inr (.inl hk))) |>.trans HTo.out (fun k hk => .inl ?_), fun k hk => ?_⟩
    · rw [waitSL, if_pos HT.out]
      exact HF.out
    · rcases hk with hk | hk
      · exact .inl hk
      · refine .inr (.inr (.inr (.inr (.inl ⟨l, d, ?_, ?_, hk⟩))))
        · rw [← hl]; exact lev_lt hm he hne
        · rw [← hd]; exact Wh.dig_lt _ _
    · rcases hk with hk | hk | hk | ⟨x, hk⟩ | ⟨a, b, ha, hb, hk⟩ | hk | hk
      · exact .inl (.inl hk)
      · exact .inl (.inr (.inl hk))
      · exact .inl (.inr (.inr (.inl hk)))
      · simp only [putM] at hk
        split at hk
        · simp only [Option.some.injEq] at hk
          exact .inr (by omega)
        · exact .inl (.inr (.inr (.inr (.inl ⟨x, hk⟩))))
      · by_cases ex : a = l ∧ b = d
        · obtain ⟨rfl, rfl⟩ := ex
          simp only [upd_same] at hk
          rcases HV.out k hk with hk | hk
          · exact .inl (.inr (.inr (.inr (.inr (.inl ⟨a, b, ha, hb, hk⟩)))))
          · exact .inr (Nat.le_trans hT1.out.size hk)
        · simp only [upd_other _ _ ex] at hk
          exact .inl (.inr (.inr (.inr (.inr (.inl ⟨a, b, ha, hb, hk⟩)))))
      · exact .inl (.inr (.inr (.inr (.inr (.inr (.inl hk))))))
      · exact .inl (.inr (.inr (.inr (.inr (.inr (.inr hk))))))
end Go.Proofs.YtnnoaolceeendaaGreatDoor
namespace Go.Proofs.YtnnoaolceeendaaGreatDoor
open Go.ChangeShapes Go.WideShapes Go.ChangeAt Go.RowKit

/-- What the table of the folds' starts holds. -/
structure FSt (w : World) : Prop where
  z0 : w.cell? ⟨0, 0, none⟩ = some (.int .i64 0)
  z1 : w.cell? ⟨0, 1, none⟩ = some (.int .i64 0)
  z2 : w.cell? ⟨0, 2, none⟩ = some (.int .i64 9223372036854775807)
  z3 : w.cell? ⟨0, 3, none⟩ = some (.int .i64 (-9223372036854775808))

theorem FSt.lt {w : World} (h : FSt w) : 1 ≤ w.heap.size := by
  have := World.block_lt_of_cell? w _ h.z0
  simp only at this
  omega
theorem FSt.agree {w w' : World} (h : FSt w) (e : w'.heap[0]? = w.heap[0]?) : FSt w' := by
  have c : ∀ i, w'.cell? ⟨0, i, none⟩ = w.cell? ⟨0, i, none⟩ := fun i => World.cell?_of_block (w := w) (a := ⟨0, i, none⟩) e
  exact ⟨(c 0).trans h.z0, (c 1).trans h.z1, (c 2).trans h.z2, (c 3).trans h.z3⟩

/-- What is at a key behind one value more. -/
def addV (fold : Int) (o : Option Int) (v : Int) : Int := match o with
  | none => M.firstV fold v
  | some n => M.foldV fold n v

theorem w64_fits (n : Int) : fits (M.w64 n) := by unfold fits M.w64; omega
theorem w64_id {n : Int} (h : fits n) : M.w64 n = n := by unfold fits at h; unfold M.w64; omega
theorem addV_fits {fold v : Int} {o : Option Int} (hv : fits v) (ho : ∀ n, o = some n → fits n) : fits (addV fold o v) := by
  unfold addV
  cases o with
  | none =>
    simp only [M.firstV]
    split
    · exact ⟨by omega, by omega⟩
    · exact hv
  | some n =>
    have hn := ho n rfl
    simp only [M.foldV]
    split
    · exact w64_fits _
    · split
      · exact w64_fits _
      · split <;> split <;> assumption
theorem wrap64_w (n : Int) : wrap64 n = M.w64 n := by unfold wrap64 M.w64; omega

/-- The value from where the fold goes on. -/
def sofar (fold : Int) (o : Option Int) : Int := match o with
  | some n => n
  | none => if fold = 2 then 9223372036854775807 else if fold = 3 then -9223372036854775808 else 0

theorem sofar_add {fold v : Int} {o : Option Int} (hv : fits v) (f0 : 0 ≤ fold) (f3 : fold ≤ 3) : M.foldV fold (sofar fold o) v = addV fold o v := by
  unfold addV sofar
  cases o with
  | some n => rfl
  | none =>
    unfold fits at hv
    simp only [M.foldV, M.firstV]
    by_cases h0 : fold = 0
    · subst h0; simp [M.w64]
    · by_cases h1 : fold = 1
      · subst h1; simp [w64_id hv]
      · by_cases h2 : fold = 2
        · subst h2
          simp only [h0, h1, if_false, if_true]
          split <;> omega
        · by_cases h3 : fold = 3
          · subst h3
            simp only [h0, h1, h2, if_false, if_true]
            split <;> omega
          · omega

/-- A function value is stored as any other. -/
theorem store_func (fn : Fn) (x y : Array Value) (a : Addr) (w : World) : (store a (.func fn x y)).run Tryz.prog w = stored Tryz.prog w a (.func fn x y) .plain := run_store _ w a _ _ rfl

theorem countUp_any (n v : Int) (w : World) : Calls Tryz.prog 102 #[.int .i64 n, .int .i64 v] w fun r w' => r = .returned (.int .i64 (M.foldV 0 n v)) ∧ w' = w := by
  have e : M.foldV 0 n v = wrap64 (n + 1) := by rw [wrap64_w]; rfl
  rw [e]
  go_enter Tryz.func102, Tryz.ntmps102
  go_wp2
  go_ret
  exact ⟨rfl, rfl⟩
theorem sumUp_any (n v : Int) (w : World) : Calls Tryz.prog 103 #[.int .i64 n, .int .i64 v] w fun r w' => r = .returned (.int .i64 (M.foldV 1 n v)) ∧ w' = w := by
  have e : M.foldV 1 n v = wrap64 (n + v) := by rw [wrap64_w]; rfl
  rw [e]
  go_enter Tryz.func103, Tryz.ntmps103
  go_wp2
  go_ret
  exact ⟨rfl, rfl⟩
theorem lesser_any (n v : Int) (w : World) : Calls Tryz.prog 104 #[.int .i64 n, .int .i64 v] w fun r w' => r = .returned (.int .i64 (M.foldV 2 n v)) ∧ w' = w := by
  have e : M.foldV 2 n v = min n v := by simp only [M.foldV]; rw [if_neg (by decide), if_neg (by decide), if_pos (by decide)]; split <;> omega
  rw [e]
  go_enter Tryz.func104, Tryz.ntmps104
  go_wp2
  go_ret
  exact ⟨rfl, rfl⟩
theorem greater_any (n v : Int) (w : World) : Calls Tryz.prog 105 #[.int .i64 n, .int .i64 v] w fun r w' => r = .returned (.int .i64 (M.foldV 3 n v)) ∧ w' = w := by
  have e : M.foldV 3 n v = max n v := by simp only [M.foldV]; rw [if_neg (by decide), if_neg (by decide), if_neg (by decide)]; split <;> omega
  rw [e]
  go_enter Tryz.func105, Tryz.ntmps105
  go_wp2
  go_ret
  exact ⟨rfl, rfl⟩

set_option maxRecDepth 100000 in
set_option maxHeartbeats 2000000 in
theorem add_any (b : Nat) (G : ByteArray → Option Int) (key : ByteArray) (v fold : Int) (w : World) (h : TalAt w b G) (hL : FSt w) (hs : key.size ≤ maxLen) (hv : fits v) (f0 : 0 ≤ fold) (f3 : fold ≤ 3) (ks : List ByteArray) (hks : ∀ s, (G s).isSome = true → s ∈ ks) (hkl : ks.length ≤ 100000000) :
    Calls Tryz.prog 71 #[.map (some b), .string key, .int .i64 v, .int .i64 fold] w fun r w' => r = .returned (.tuple #[]) ∧ TalAt w' b (putG G key (addV fold (G key) v)) ∧ Touch (fun k => k = b) w w' := by
  have H := hideP h
  obtain ⟨o, hG⟩ : ∃ o, G key = o := ⟨_, rfl⟩
  have hof : ∀ n, G key = some n → fits n := fun n hn => by
    obtain ⟨D, -, h2⟩ := h
    exact (h2.yes key n hn).2.1
  have hbz := h.lt
  have HG := hideP hG
  have hA1 : ∀ o, Below w.heap.size w (w.alloc o) := fun o => (Below.refl _ _).alloc (Nat.le_refl _) o
  have hz := hL.lt
  have y0 : ∀ o, (w.alloc o).cell? ⟨0, 0, none⟩ = some (.int .i64 0) := fun o => (hL.agree ((hA1 o).block 0 hz)).z0
  have y1 : ∀ o, (w.alloc o).cell? ⟨0, 1, none⟩ = some (.int .i64 0) := fun o => (hL.agree ((hA1 o).block 0 hz)).z1
  have y2 : ∀ o, (w.alloc o).cell? ⟨0, 2, none⟩ = some (.int .i64 9223372036854775807) := fun o => (hL.agree ((hA1 o).block 0 hz)).z2
  have y3 : ∀ o, (w.alloc o).cell? ⟨0, 3, none⟩ = some (.int .i64 (-9223372036854775808)) := fun o => (hL.agree ((hA1 o).block 0 hz)).z3
  clear hL
  have HA : Hid (TalAt (w.alloc (.cells #[.func (.func 102) #[] #[], .func (.func 103) #[] #[], .func (.func 104) #[] #[], .func (.func 105) #[] #[]] 176)) b G) :=
    H.out.agree ((hA1 _).block b hbz)
  have HF : ∀ f, f = fold → Hid (fits (M.foldV f (sofar fold o) v) ∧ M.foldV f (sofar fold o) v = addV fold (G key) v) := fun f hf => by
    subst hf
    rw [sofar_add hv f0 f3, hG]
    exact ⟨addV_fits hv (fun n hn => hof n (hG.trans hn)), rfl⟩
  clear h hG hA1
  have hsf := store_func
  rcases (show fold = 0 ∨ fold = 1 ∨ fold = 2 ∨ fold = 3 by omega) with rfl | rfl | rfl | rfl <;> cases o
  all_goals
    have HF := HF _ rfl
    go_enter Tryz.func71, Tryz.ntmps71
    go_wp2_with (first
      | (at_lookup; refine wpList_tal_ok _ rfl _ _ rfl b G key rfl HA.out rfl hs ?_; rw [HG.out]; simp only [Option.getD_some, Option.isSome_some, Option.getD_none, Option.isSome_none])
      | (go_at_call 102; refine (countUp_any _ _ _).mono ?_; rintro r w9 ⟨rfl, rfl⟩)
      | (go_at_call 103; refine (sumUp_any _ _ _).mono ?_; rintro r w9 ⟨rfl, rfl⟩)
      | (go_at_call 104; refine (lesser_any _ _ _).mono ?_; rintro r w9 ⟨rfl, rfl⟩)
      | (go_at_call 105; refine (greater_any _ _ _).mono ?_; rintro r w9 ⟨rfl, rfl⟩)
      | (at_mapUpdate; refine wpList_tal_put _ rfl _ _ _ rfl b G key _ rfl HA.out rfl rfl hs HF.out.1 ks hks hkl ?_; intro w1 ht1 hto1))
    go_end0
    exact ⟨rfl, by rw [← HF.out.2]; exact ht1, (Touch.of_below ((Below.refl _ _).alloc (Nat.le_refl _) _)).trans hto1 (fun _ h => .inl h)⟩
end Go.Proofs.YtnnoaolceeendaaGreatDoor
