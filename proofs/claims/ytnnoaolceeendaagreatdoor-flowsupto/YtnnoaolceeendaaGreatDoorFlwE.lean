import Derived.Test.YtnnoaolceeendaaGreatDoorFlwD
import Derived.Test.YtnnoaolceeendaaGreatDoorShelf
import Derived.Sort.Walk0
namespace Go.Proofs.YtnnoaolceeendaaGreatDoor
open Go.ChangeShapes Go.WideShapes Go.ChangeAt Go.RowKit

def keyB (l : List UInt8) : ByteArray := ⟨l.toArray⟩
theorem keyB_list (l : List UInt8) : (keyB l).data.toList = l := by simp [keyB]
theorem keyB_toList (l : List UInt8) : (keyB l).toList = l := by rw [ByteArray.toList_eq]; exact keyB_list l
theorem keyB_of (s : ByteArray) : keyB s.data.toList = s := by obtain ⟨a⟩ := s; simp [keyB]
def stC (s : ByteArray) : List Value := [.string s]
theorem stC_len (s : ByteArray) : (stC s).length = 1 := rfl

/-- The keys of a tally, rising. -/
structure KeysAre (G : ByteArray → Option Int) (ks : List ByteArray) : Prop where
  rise : ks.Pairwise fun a b => ltK a b = true
  mem : ∀ k, k ∈ ks ↔ (G k).isSome = true

theorem keys_are {w : World} {b n : Nat} {D : DataW Unit} {G : ByteArray → Option Int} (ho : w.ownsMap Tryz.prog 9 (plainElem Tryz.prog 3) b n D) (h : TalD D G) {ss : List (List UInt8)} (hp : ss.Perm (strKeys D)) : KeysAre G ((ss.mergeSort (fun x y => decide (x ≤ y))).map keyB) := by
  have hnd : ss.Nodup := hp.nodup_iff.2 (TalD.nodup ho)
  have hm : (ss.mergeSort (fun x y => decide (x ≤ y))).Perm ss := List.mergeSort_perm _ _
  constructor
  · have tr : ∀ a b c : List UInt8, leB a b = true → leB b c = true → leB a c = true := fun a b c h1 h2 => by simp only [leB, decide_eq_true_eq] at *; exact List.le_trans h1 h2
    have to : ∀ a b : List UInt8, (leB a b || leB b a) = true := fun a b => by simp only [leB, Bool.or_eq_true, decide_eq_true_eq]; exact List.le_total a b
    have h1 : (ss.mergeSort leB).Pairwise (fun a b => leB a b = true) := List.pairwise_mergeSort tr to ss
    have h2 : (ss.mergeSort leB).Nodup := hm.nodup_iff.2 hnd
    rw [List.pairwise_map]
    refine (h1.and h2).imp fun {x y} hxy => ?_
    obtain ⟨h3, h4⟩ := hxy
    unfold ltK
    rw [keyB_toList, keyB_toList]
    simp only [leB, decide_eq_true_eq] at h3
    rcases bl_tot x y h4 with h5 | h5
    · exact h5
    · rw [bytesLess_eq, decide_eq_true_eq] at h5
      exact absurd h5 (List.not_lt.2 h3)
  · intro k
    rw [← h.keys ho k, ← hp.mem_iff, ← hm.mem_iff, List.mem_map]
    constructor
    · rintro ⟨l, hl, rfl⟩
      rw [keyB_list]
      exact hl
    · intro hk
      exact ⟨_, hk, keyB_of k⟩

theorem flat_one {α β : Type} (f : α → β) : ∀ l : List α, (l.flatMap fun x => [f x]) = l.map f
  | [] => rfl
  | x :: l => by rw [List.flatMap_cons, flat_one f l]; rfl

theorem strs_row {w : World} {B : Nat} {v : Value} {l : List (List UInt8)} {n : Nat} (hn : n = l.length) (h : w.ownsRow B 9 1 v n (l.map encStr)) : RowIs stC w B 9 1 v (l.map keyB) := by
  subst hn
  unfold RowIs
  rw [List.length_map, show (l.map keyB).flatMap stC = l.map encStr by rw [show stC = fun s => [Value.string s] from rfl, flat_one, List.map_map]; rfl]
  exact h

def paneOf (G : ByteArray → Option Int) (a z : Int) (k : ByteArray) : M.Pn ByteArray := ⟨a, z, k, (G k).getD 0⟩

theorem Tryz.infoTPn : (Tryz.prog.info? 52).map (fun i => (i.zero, i.size, i.bytes)) = some (some (.agg #[.int .i64 0, .int .i64 0, .string ByteArray.empty, .int .i64 0]), 4, 40) := by kernel_rfl

/-- What the loop of 'panes' holds. -/
structure Pns (w0 wr : World) (b : Nat) (G : ByteArray → Option Int) (sv vo : Value) (ks : List ByteArray) (a z : Int) (k : Nat) : Prop where
  row : RowIs pnC wr w0.heap.size 52 4 vo ((ks.take k).map (paneOf G a z))
  strs : RowIs stC wr w0.heap.size 9 1 sv ks
  tal : TalAt wr b G
  below : Below w0.heap.size w0 wr

theorem Pns.step {w0 wr w2 : World} {b : Nat} {G : ByteArray → Option Int} {sv vo v2 : Value} {ks : List ByteArray} {a z : Int} {k : Nat} {key : ByteArray} (h : Pns w0 wr b G sv vo ks a z k) (hb : b < w0.heap.size) (hk : ks[k]? = some key) (hr : RowIs pnC w2 w0.heap.size 52 4 v2 ((ks.take k).map (paneOf G a z) ++ [paneOf G a z key])) (hg : wr.grownBy w2 vo.ownBlock) : Pns w0 w2 b G sv v2 ks a z (k + 1) := by
  have hT : Touch (fun x => vo.ownBlock = some x) wr w2 := Touch.grown hg (fun _ h => h)
  have hlow : ∀ x, vo.ownBlock = some x → w0.heap.size ≤ x := fun x hx => (h.row.lt x hx).1
  refine ⟨?_, ?_, ?_, ?_⟩
  · rw [take_snoc' hk, List.map_append]
    exact hr
  · refine h.strs.agree fun x hx => hT.block x (h.strs.lt x hx).2 (fun hy => ?_)
    obtain ⟨c1, k1⟩ := row_kind h.strs hx
    obtain ⟨c2, k2⟩ := row_kind h.row hy
    exact kinds_ne k1 k2 (by decide) rfl
  · exact h.tal.agree (hT.block b h.tal.lt (fun hy => by have := hlow b hy; omega))
  · exact h.below.trans (hT.below h.below.size hlow)

set_option maxRecDepth 100000 in
set_option maxHeartbeats 2000000 in
theorem panes_any (b : Nat) (G : ByteArray → Option Int) (st en : Int) (w : World) (h : TalAt w b G) (kk : List ByteArray) (hkk : ∀ s, (G s).isSome = true → s ∈ kk) (hkl : kk.length ≤ 100000000) :
    Calls Tryz.prog 75 #[.map (some b), .int .i64 st, .int .i64 en] w fun r w' => ∃ v, r = .returned v ∧ ∃ ks, KeysAre G ks ∧ RowIs pnC w' w.heap.size 52 4 v (ks.map (paneOf G st en)) ∧ Below w.heap.size w w' := by
  obtain ⟨i0, hi, hz0, hz1, hz2⟩ := info_parts Tryz.infoTPn
  have H := hideP h
  have hbz := h.lt
  obtain ⟨D, h1, h2⟩ := h
  have hsz := h2.size_le h1 hkk
  have H1 := hideP h1
  have H2 := hideP h2
  clear h1 h2
  go_enter Tryz.func75, Tryz.ntmps75
  go_wp2_with (first
    | (at_len; refine Go.wpList_len_own _ rfl _ 144 rfl 9 3 Tryz.underlying144 _ b _ D rfl H1.out ?_)
    | (at_make; refine wpList_make_own _ rfl _ _ 48 rfl w.heap.size 52 i0 _ 4 Tryz.underlying48 hi hz0 hz1 .i64 .i64 _ (Maps.size D) rfl rfl rfl (by rw [hz2]; omega) (by unfold maxLen; omega) (Nat.le_refl _) ?_; intro w1 hr1 hg1)
    | (go_at_call 111; refine (callsIn_wide.1 (shelf_keys _ _)).mono ?_; rintro r w9 ⟨rfl, rfl⟩)
    | (go_at_call 110; fail))
  have HG1 := hideP hg1
  have HR1 := hideP hr1
  have H1w := hideP (H1.out.kept hg1 (by simp))
  clear hg1 hr1
  refine (callsIn_wide.1 (shelf_sorted b _ D _ w1 H1w.out (by unfold maxLen; omega) (by omega))).mono ?_
  rintro r w3 ⟨v3, ss, rfl, hp3, hr3, -, hb3⟩
  have KA := hideP (keys_are H1.out H2.out hp3)
  have hlen : ss.length ≤ 100000000 := by
    have e1 := hp3.length_eq
    have e2 : (strKeys D).length = Maps.size D := by
      obtain ⟨es, rfl⟩ := H1.out.isMap
      rw [Maps.size_eq]
      show (es.map fun p => strOf p.1).length = es.length
      simp
    omega
  have hr4 := strs_row (by rw [List.length_mergeSort]) hr3
  obtain ⟨ks, hks⟩ : ∃ ks, ks = (ss.mergeSort (fun x y => decide (x ≤ y))).map keyB := ⟨_, rfl⟩
  rw [← hks] at hr4 KA
  have hkl2 : ks.length ≤ 100000000 := by rw [hks, List.length_map, List.length_mergeSort]; exact hlen
  clear hks hp3 hr3
  obtain ⟨a3, c3, rfl⟩ := hr4.slice
  have hA1 : Below w.heap.size w (w1.alloc (.cells #[.map (some b)] 144)) := (Below.grown (Below.refl _ _) HG1.out (Nat.le_refl _) (fun j hj => by cases hj)).alloc HG1.out.size _
  have hz1 : w.heap.size ≤ w1.heap.size := HG1.out.size
  have P0 : Hid (Pns w w3 b G (.slice a3 ks.length c3) (.slice (some ⟨w.heap.size, 0, none⟩) 0 (Maps.size D)) ks st en 0) := by
    refine ⟨?_, hr4.base (by simp; omega), ?_, hA1.trans (hb3.mono hA1.size)⟩
    · have : RowIs pnC w1 w.heap.size 52 4 (.slice (some ⟨w.heap.size, 0, none⟩) 0 (Maps.size D)) [] := HR1.out
      exact (RowIs.below (this.below ((Below.refl _ _).alloc (Nat.le_refl _) _)) hb3)
    · exact H.out.agree ((hA1.trans (hb3.mono hA1.size)).block b hbz)
  clear hb3 hA1 hr4
  go_wp2
  go_loopw [7, 17] (fun vo ii wr => ∃ k : Nat, k ≤ ks.length ∧ ii = .int .i64 k ∧ Hid (Pns w wr b G (.slice a3 ks.length c3) vo ks st en k)) (fun _ ii _ => ks.length - (intOf ii).toNat)
  case atStart => exact ⟨0, Nat.zero_le _, rfl, P0⟩
  case round =>
    obtain ⟨k, hk, rfl, HP⟩ := hrel
    by_cases hlt : k < ks.length
    · obtain ⟨key, hx⟩ : ∃ e, ks[k]? = some e := ⟨_, List.getElem?_eq_getElem hlt⟩
      obtain ⟨gs, cap, ev, -, hgs, hc, -⟩ := HP.out.strs.at stC_len hx
      simp only [Value.slice.injEq] at ev
      obtain ⟨rfl, -, rfl⟩ := ev
      have m0 : wr.cell? ⟨gs, k, none⟩ = some (.string key) := by
        have := hc 0 (by omega)
        simpa [stC] using this
      have hkey : key.size ≤ maxLen := by
        have h5 := (KA.out.mem key).1 (List.mem_of_getElem? hx)
        obtain ⟨v5, h6⟩ := Option.isSome_iff_exists.1 h5
        exact (H2.out.yes key v5 h6).1
      have HX := hideP hx
      have i1 : (0 : Int) ≤ (k : Int) := by omega
      have i2 : (k : Int) < (ks.length : Int) := by omega
      have hbz2 := HP.out.below.size
      have htl : ((ks.take k).map (paneOf G st en)).length ≤ k := by rw [List.length_map]; exact List.length_take_le _ _
      clear hx hc
      go_wp2_with (first
        | (at_lookup; refine wpList_tal_look _ rfl _ _ rfl b G key rfl HP.out.tal rfl hkey ?_)
        | (at_builtin; refine wpList_push2 (enc := pnC) _ rfl _ _ 48 rfl w.heap.size 52 i0 _ 4 40 Tryz.underlying48 hi hz0 (by assumption) hz2 rfl (by decide) _ ((ks.take k).map (paneOf G st en)) (paneOf G st en key) rfl HP.out.row _ rfl rfl rfl (pnC_one _) (by omega) (by unfold maxLen; omega) (by omega) ?_; intro gg cp w2 hr2 hg2 hat2))
      have e9 : ((ks.take k).map (paneOf G st en)).length = k := by rw [List.length_map, List.length_take]; omega
      rw [e9] at hr2
      have P2 := hideP (HP.out.step hbz HX.out hr2 hg2)
      clear hr2 hg2 e9
      go_roundw
      case rel => exact ⟨k + 1, by omega, by go_num, P2⟩
      case measure => simp [intOf]; omega
    · have ek : k = ks.length := by omega
      subst ek
      have HR := hideP HP.out.row
      rw [List.take_length] at HR
      go_wp2
      go_ret
      exact ⟨_, rfl, ks, KA.out, HR.out, HP.out.below⟩
end Go.Proofs.YtnnoaolceeendaaGreatDoor
