import Derived.Test.YtnnoaolceeendaaGreatDoorFlwE
import Derived.Deep.RegionLaw
import Derived.BigRegion
namespace Go.Proofs.YtnnoaolceeendaaGreatDoor
open Go.ChangeShapes Go.WideShapes Go.ChangeAt Go.RowKit

section
variable {w w' : World} {g : Nat} {s : FS}
theorem FlObj.at0 (h : FlObj w g s) : w.cell? ⟨g, 0, none⟩ = some (.int .i64 s.C.size) := h.cell (by omega)
theorem FlObj.at265 (h : FlObj w g s) : w.cell? ⟨g, 265, none⟩ = some s.tv := h.cell (by omega)
theorem FlObj.at266 (h : FlObj w g s) : w.cell? ⟨g, 266, none⟩ = some s.av := h.cell (by omega)

/-- What was told goes on. -/
theorem FlowIs.telling (h : FlowIs w g s) {v' : Value} {l : List (M.Pn ByteArray)} (hr : RowIs pnC w' 0 52 4 v' l) (ht : Touch (fun k => s.tv.ownBlock = some k) w w') (hv : ∀ k, v'.ownBlock = some k → s.tv.ownBlock = some k ∨ w.heap.size ≤ k) :
    FlowIs (w'.setCell ⟨g, 265, none⟩ v') g { s with tv := v', told := l } ∧ Touch (fun k => k = g ∨ s.tv.ownBlock = some k) w (w'.setCell ⟨g, 265, none⟩ v') := by
  have hk : ∀ K k, K ≠ .pane → kd g s K k → w'.heap[k]? = w.heap[k]? := fun K k hK hk => ht.block k (h.foot_lt (foot_kd.2 ⟨K, hk⟩)) (fun hx => hK (kd_inj h hk (show kd g s .pane k from hx)))
  have hg : ∀ K k, K ≠ .pane → K ≠ .flow → kd g s K k → (w'.setCell ⟨g, 265, none⟩ v').heap[k]? = w.heap[k]? := fun K k hK hF hk' => by
    rw [Below.heap_setCell w' ⟨g, 265, none⟩ v' k (fun e => hF (kd_inj h hk' (show kd g s .flow k from e)))]
    exact hk K k hK hk'
  have hvg : ∀ k, v'.ownBlock = some k → k ≠ g := fun k hk' => by
    rcases hv k hk' with h1 | h1
    · exact fun e => by have := kd_inj h (show kd g s .pane k from h1) (show kd g s .flow k from e); cases this
    · have := h.ob.lt; omega
  exact ⟨⟨(h.ob.agree (hk .flow g (by simp) rfl)).setTold v' l, h.parts.agree (fun k hk' => hg .part k (by simp) (by simp) hk'), h.tls.agree (hg .tls _ (by simp) (by simp) rfl), fun x b hb => (h.tal x b hb).agree (hg (.tal x) b (by simp) (by simp) hb), h.tin, fun a b ha hb => (h.slot a b ha hb).agree (fun k hk' => hg (.slot a b) k (by simp) (by simp) ⟨ha, hb, hk'⟩), h.sin,
    hr.agree (fun k hk' => Below.heap_setCell w' _ v' k (hvg k hk')), h.late.agree (fun k hk' => hg .event k (by simp) (by simp) hk')⟩, ht.mono (fun _ h => .inr h) |>.trans (Touch.set (S := fun k => k = g ∨ s.tv.ownBlock = some k) (.inl rfl) _) (fun _ h => .inl h)⟩
end

theorem row_cells {w : World} {B e n : Nat} {v : Value} {l : List (M.Pn ByteArray)} (h : RowIs pnC w B e 4 v l) (hn : n = l.length) (h0 : 0 < n) : ∃ b cap, v = .slice (some ⟨b, 0, none⟩) n cap ∧ (∀ j u, (l.flatMap pnC)[j]? = some u → w.cell? ((⟨b, 0, none⟩ : Addr).add j) = some u) ∧ B ≤ b ∧ b < w.heap.size := by
  subst hn
  rcases h.2 with ⟨-, h2⟩ | ⟨b, cap, cur, rfl, hb, hh, h1, h2, h3, h4⟩
  · omega
  · refine ⟨b, cap, rfl, fun j u hu => ?_, hb, lt_of_block hh⟩
    have hadd : (⟨b, 0, none⟩ : Addr).add j = ⟨b, j, none⟩ := by unfold Addr.add; split <;> simp_all
    rw [hadd, cell_of_row w b j cur _ _ hh, ← Array.getElem?_toList]
    rw [← h4, List.getElem?_take] at hu
    split at hu
    · exact hu
    · cases hu

theorem pns_one (l : List (M.Pn ByteArray)) : ∀ u ∈ l.flatMap pnC, u.oneCell' = true := fun u hu => by
  obtain ⟨p, -, hp⟩ := List.mem_flatMap.1 hu
  exact pnC_one p u hp
theorem pns_len : ∀ l : List (M.Pn ByteArray), (l.flatMap pnC).length = l.length * 4
  | [] => rfl
  | p :: l => by rw [List.flatMap_cons, List.length_append, pns_len l, pnC_len, List.length_cons]; omega

/-- What the closure's call finds behind the tally's panes. -/
structure Told1 (w w1 : World) (g bx : Nat) (s : FS) (e : Int) (v1 : Value) (ks : List ByteArray) : Prop where
  keys : KeysAre (s.GM e) ks
  row : RowIs pnC w1 w.heap.size 52 4 v1 (ks.map (paneOf (s.GM e) (e - s.C.size) e))
  below : Below w.heap.size w w1

theorem tell_end {w w1 w2 : World} {g bx gg cp : Nat} {s : FS} {e : Int} {v1 : Value} {ks : List ByteArray} (h : FlowIs w g s) (hd : Told1 w w1 g bx s e v1 ks) (ho : w2.ownsRow 0 52 4 (.slice (some ⟨gg, 0, none⟩) (s.told.length + ks.length) cp) (s.told.length + ks.length) (s.told.flatMap pnC ++ (ks.map (paneOf (s.GM e) (e - s.C.size) e)).flatMap pnC)) (hg : w1.grownBy w2 s.tv.ownBlock) (ha : s.tv.ownBlock = some gg ∨ gg = w1.heap.size) :
    ∃ ks' v', KeysAre (s.GM e) ks' ∧ FlowIs (w2.setCell ⟨g, 265, none⟩ (.slice (some ⟨gg, 0, none⟩) (s.told.length + ks.length) cp)) g { s with tv := v', told := s.told ++ ks'.map (paneOf (s.GM e) (e - s.C.size) e) } ∧ Touch (fun k => k = g ∨ s.tv.ownBlock = some k) w (w2.setCell ⟨g, 265, none⟩ (.slice (some ⟨gg, 0, none⟩) (s.told.length + ks.length) cp)) ∧ ∀ k, v'.ownBlock = some k → s.tv.ownBlock = some k ∨ w.heap.size ≤ k := by
  have hT : Touch (fun k => s.tv.ownBlock = some k) w w2 := (Touch.of_below hd.below).trans (Touch.grown (S := fun k => s.tv.ownBlock = some k) hg (fun _ h => h)) (fun _ h => .inl h)
  have hv : ∀ k, (Value.slice (some ⟨gg, 0, none⟩) (s.told.length + ks.length) cp).ownBlock = some k → s.tv.ownBlock = some k ∨ w.heap.size ≤ k := fun k hk => by
    simp only [Value.ownBlock, Option.some.injEq] at hk
    subst hk
    rcases ha with ha | ha
    · exact .inl ha
    · exact .inr (by have := hd.below.size; omega)
  have hr : RowIs pnC w2 0 52 4 (.slice (some ⟨gg, 0, none⟩) (s.told.length + ks.length) cp) (s.told ++ ks.map (paneOf (s.GM e) (e - s.C.size) e)) := by
    unfold RowIs
    rw [List.length_append, List.length_map, List.flatMap_append]
    exact ho
  have R := h.telling hr hT hv
  exact ⟨ks, _, hd.keys, R.1, R.2, hv⟩

set_option maxRecDepth 100000 in
set_option maxHeartbeats 4000000 in
theorem tell_any (g bx : Nat) (s : FS) (e : Int) (tb : Nat) (w : World) (h : FlowIs w g s) (hbx : w.heap[bx]? = some (.cells #[.pointer (some ⟨g, 0, none⟩)] 25 (0, 0))) (hT : s.TM e = some tb) (hes : fits (e - s.C.size)) (kk : List ByteArray) (hkk : ∀ k, (s.GM e k).isSome = true → k ∈ kk) (hkl : kk.length ≤ 100000000) (hne : ∃ k, (s.GM e k).isSome = true) (hlen : s.told.length ≤ 100000000) :
    Calls Tryz.prog 74 #[.int .i64 e, .map (some tb), .pointer (some ⟨bx, 0, none⟩)] w fun r w' => r = .returned (.tuple #[]) ∧ ∃ ks v', KeysAre (s.GM e) ks ∧ FlowIs w' g { s with tv := v', told := s.told ++ ks.map (paneOf (s.GM e) (e - s.C.size) e) } ∧ Touch (fun k => k = g ∨ s.tv.ownBlock = some k) w w' ∧ ∀ k, v'.ownBlock = some k → s.tv.ownBlock = some k ∨ w.heap.size ≤ k := by
  obtain ⟨i0, hi, hz0, hz1, hz2⟩ := info_parts Tryz.infoTPn
  have hgz := h.ob.lt
  have hbz := lt_of_block hbx
  have cb : w.cell? ⟨bx, 0, none⟩ = some (.pointer (some ⟨g, 0, none⟩)) := cell_of_row w bx 0 _ _ _ hbx
  have c0 := h.ob.at0
  have c5 := h.ob.at265
  have f5 := h.ob.frozen 265
  have hgt : s.tv.ownBlock ≠ some g := fun hx => by have := kd_inj h (show kd g s .pane g from hx) (show kd g s .flow g from rfl); cases this
  have hbt : s.tv.ownBlock ≠ some bx := fun hx => by
    obtain ⟨c, k⟩ := row_kind h.told hx
    exact kinds_ne k hbx (by decide) rfl
  have H := hideP h
  have TA := hideP (h.tal e tb hT)
  have hwr : IntKind.i64.wrap (e - s.C.size) = e - s.C.size := by
    unfold fits at hes
    rw [IntKind.wrap_i64]; omega
  have PA : Hid (∀ w9 : World, w9.os = w.os → w9.tape = w.tape → w9.output = w.output → w9.heap = w.heap → Calls Tryz.prog 75 #[.map (some tb), .int .i64 (IntKind.i64.wrap (e - s.C.size)), .int .i64 e] w9 fun r w1 => ∃ v1, r = .returned v1 ∧ ∃ ks, Told1 w w1 g bx s e v1 ks) := fun w9 e1 e2 e3 e4 => by
    rw [hwr]
    refine (panes_any tb (s.GM e) (e - s.C.size) e w9 (TA.out.agree (by rw [e4])) kk hkk hkl).mono ?_
    rintro r w1 ⟨v1, rfl, ks, k1, k2, k3⟩
    rw [e4] at k2 k3
    exact ⟨v1, rfl, ks, k1, k2, ⟨k3.os.trans e1, k3.tape.trans e2, k3.output.trans e3, by rw [← e4]; exact k3.size, fun b hb => by rw [k3.block b hb, e4]⟩⟩
  have hkl' : ∀ {w1 : World} {v1 : Value} {ks : List ByteArray}, Told1 w w1 g bx s e v1 ks → 0 < ks.length ∧ ks.length ≤ 100000000 := fun {w1 v1 ks} t => by
    constructor
    · obtain ⟨k, hk⟩ := hne
      exact List.length_pos_of_mem ((t.keys.mem k).2 hk)
    · refine Nat.le_trans (List.Nodup.length_le_of_subset ?_ (fun k hk => hkk k ((t.keys.mem k).1 hk))) hkl
      exact t.keys.rise.imp fun {a b} hab hx => by rw [hx, soK.irr] at hab; cases hab
  clear h hT hkk hne hwr TA hes
  go_enter Tryz.func74, Tryz.ntmps74
  go_wp2_with fail
  go_region_law ((first
    | (refine step_append_lies _ (by rfl) _ _ _ (by rfl) 0 52 i0 _ 4 40 Tryz.underlying48 hi hz0 hz1 hz2 rfl (by omega) s.tv s.told.length (s.told.flatMap pnC) (by rfl) TR1.out ⟨b1, 0, none⟩ ks.length cap1 ((ks.map (paneOf (s.GM e) (e - s.C.size) e)).flatMap pnC) (by rfl) (by rw [pns_len, List.length_map]) HN.out (pns_one _) hks.1 (by have := hks.2; unfold maxLen; omega) (by have := hks.2; omega) (Nat.zero_le _) w1.heap.size rfl ?_; intro gg cp w2 hown2 hg2 hat2 hlt2; have cb2 : w2.cell? ⟨bx, 0, none⟩ = some (.pointer (some ⟨g, 0, none⟩)) := (hg2.cell_far ⟨bx, 0, none⟩ (by simp; omega) (Ne.symm hbt)).trans cb1; have c52 : w2.cell? ⟨g, 265, none⟩ = some s.tv := (hg2.cell_far ⟨g, 265, none⟩ (by simp; omega) (Ne.symm hgt)).trans c51; have f52 : w2.frozen? ⟨g, 265, none⟩ = false := (((H.out.below HD.out.below).ob.agree (hg2.block g (by omega) (Ne.symm hgt))).frozen 265))
    | (go_simp; go_wp2_with (go_at_call 75; (refine (PA.out _ ?_ ?_ ?_ ?_).mono ?_; rfl; rfl; rfl; rfl; rintro r w1 ⟨v1, rfl, ks, hd1⟩; have HD := hideP hd1; have hks := hkl' hd1; obtain ⟨b1, cap1, rfl, hnews, hb1, hb2⟩ := row_cells hd1.row rfl (by rw [List.length_map]; exact hks.1); have cb1 := keepAt hd1.below hbz cb; have c01 := keepAt hd1.below hgz c0; have c51 := keepAt hd1.below hgz c5; have f51 := ((H.out.below hd1.below).ob.frozen 265); have TR1 := hideP ((H.out.below hd1.below).told); have HN := hideP hnews; have hz9 := hd1.below.size; clear hd1 hnews)))))
  all_goals
    clear cb cb1 cb2 c0 c01 c5 c51 c52 f5 f51 f52 TR1 HN PA
    go_wp2
    go_end0
    exact ⟨rfl, tell_end H.out HD.out hown2 hg2 hat2⟩
end Go.Proofs.YtnnoaolceeendaaGreatDoor
