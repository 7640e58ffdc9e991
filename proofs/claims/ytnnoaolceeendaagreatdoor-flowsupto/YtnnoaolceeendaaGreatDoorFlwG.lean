import Derived.Test.YtnnoaolceeendaaGreatDoorFlwE
import Derived.Sort.OwnSortedInts
namespace Go.Proofs.YtnnoaolceeendaaGreatDoor
open Go.ChangeShapes Go.WideShapes Go.ChangeAt Go.RowKit

/-! ### What a drain does, without the values -/
/-- A tally's keys, rising. -/
noncomputable def keysL (G : ByteArray → Option Int) : List ByteArray := by
  classical
  exact if h : ∃ ks, KeysAre G ks then Classical.choose h else []

theorem keys_uniq {G : ByteArray → Option Int} : ∀ {a b : List ByteArray}, KeysAre G a → KeysAre G b → a = b := by
  have key : ∀ {a b : List ByteArray}, a.Pairwise (fun x y => ltK x y = true) → b.Pairwise (fun x y => ltK x y = true) → (∀ k, k ∈ a ↔ k ∈ b) → a = b := by
    intro a
    induction a with
    | nil =>
      intro b _ _ h
      cases b with
      | nil => rfl
      | cons y r => exact absurd ((h y).2 (by simp)) (by simp)
    | cons x a ih =>
      intro b ha hb h
      cases b with
      | nil => exact absurd ((h x).1 (by simp)) (by simp)
      | cons y b =>
        have ha' := List.pairwise_cons.1 ha
        have hb' := List.pairwise_cons.1 hb
        have e : x = y := by
          rcases List.mem_cons.1 ((h x).1 (by simp)) with e | e
          · exact e
          · rcases List.mem_cons.1 ((h y).2 (by simp)) with e' | e'
            · exact e'.symm
            · have h1 := soK.tr _ _ _ (ha'.1 y e') (hb'.1 x e)
              rw [soK.irr] at h1
              cases h1
        subst e
        rw [ih ha'.2 hb'.2 (fun z => ?_)]
        constructor
        · intro hz
          rcases List.mem_cons.1 ((h z).1 (by simp [hz])) with e | e
          · subst e
            have := ha'.1 z hz
            rw [soK.irr] at this
            cases this
          · exact e
        · intro hz
          rcases List.mem_cons.1 ((h z).2 (by simp [hz])) with e | e
          · subst e
            have := hb'.1 z hz
            rw [soK.irr] at this
            cases this
          · exact e
  intro a b ha hb
  exact key ha.rise hb.rise fun k => (ha.mem k).trans (hb.mem k).symm

theorem keysL_is {G : ByteArray → Option Int} {ks : List ByteArray} (h : KeysAre G ks) : keysL G = ks := by
  unfold keysL
  rw [dif_pos ⟨ks, h⟩]
  exact keys_uniq (Classical.choose_spec (p := fun ks => KeysAre G ks) ⟨ks, h⟩) h

def sortI (l : List Int) : List Int := l.mergeSort (fun x y => decide (x ≤ y))
theorem sortI_len (l : List Int) : (sortI l).length = l.length := List.length_mergeSort _
theorem sortI_mem {l : List Int} {x : Int} : x ∈ sortI l ↔ x ∈ l := (List.mergeSort_perm l _).mem_iff

def placeF (t : Int) (SL : Nat → Nat → List Int) (e : Int) : Nat → Nat → List Int :=
  upd SL (Wh.levF (Wh.rk t) (Wh.rk e)) (Wh.dig (Wh.levF (Wh.rk t) (Wh.rk e)) (Wh.rk e)) (SL (Wh.levF (Wh.rk t) (Wh.rk e)) (Wh.dig (Wh.levF (Wh.rk t) (Wh.rk e)) (Wh.rk e)) ++ [e])
noncomputable def tellE (GM : Int → ByteArray → Option Int) (size e : Int) : List (M.Pn ByteArray) := (keysL (GM e)).map (paneOf (GM e) (e - size) e)

def plc (t : Int) (SL : Nat → Nat → List Int) (L : List Int) : Nat → Nat → List Int := (L.filter fun e => decide (t < e)).foldl (placeF t) SL
noncomputable def tld (GM : Int → ByteArray → Option Int) (size t : Int) (L : List Int) : List (M.Pn ByteArray) := (L.filter fun e => decide (e ≤ t)).flatMap (tellE GM size)
def gone (t : Int) (TM : Int → Option Nat) (L : List Int) : Int → Option Nat := fun x => if x ∈ L ∧ x ≤ t then none else TM x

theorem plc_snoc (t : Int) (SL : Nat → Nat → List Int) (L : List Int) (e : Int) : plc t SL (L ++ [e]) = if t < e then placeF t (plc t SL L) e else plc t SL L := by
  unfold plc
  rw [List.filter_append]
  by_cases h : t < e
  · rw [if_pos h]; simp [h]
  · rw [if_neg h]; simp [h]
theorem tld_snoc (GM : Int → ByteArray → Option Int) (size t : Int) (L : List Int) (e : Int) : tld GM size t (L ++ [e]) = if e ≤ t then tld GM size t L ++ tellE GM size e else tld GM size t L := by
  unfold tld
  rw [List.filter_append]
  by_cases h : e ≤ t
  · rw [if_pos h]; simp [h]
  · rw [if_neg h]; simp [h]
theorem gone_snoc (t : Int) (TM : Int → Option Nat) (L : List Int) (e : Int) : gone t TM (L ++ [e]) = if e ≤ t then delM (gone t TM L) e else gone t TM L := by
  funext x
  unfold gone delM
  by_cases h : e ≤ t
  · rw [if_pos h]
    by_cases hx : x = e
    · subst hx; simp [h]
    · simp [hx]
  · rw [if_neg h]
    by_cases hx : x = e
    · subst hx; simp [h]
    · simp [hx]
theorem plc_nil (t : Int) (SL : Nat → Nat → List Int) : plc t SL [] = SL := rfl
theorem gone_nil (t : Int) (TM : Int → Option Nat) : gone t TM [] = TM := by funext x; simp [gone]

theorem place_len (t : Int) (l d : Nat) : ∀ (L : List Int) (SL : Nat → Nat → List Int), ((L.foldl (placeF t) SL) l d).length ≤ (SL l d).length + L.length
  | [], SL => by simp
  | e :: L, SL => by
    have := place_len t l d L (placeF t SL e)
    rw [List.foldl_cons]
    refine Nat.le_trans this ?_
    have h2 : (placeF t SL e l d).length ≤ (SL l d).length + 1 := by
      unfold placeF upd
      split
      · rename_i hc
        rw [hc.1, hc.2]
        simp
      · omega
    rw [List.length_cons]
    omega
theorem plc_len (t : Int) (SL : Nat → Nat → List Int) (L : List Int) (l d : Nat) : (plc t SL L l d).length ≤ (SL l d).length + L.length := by
  have := place_len t l d (L.filter fun e => decide (t < e)) SL
  have h2 := List.length_filter_le (fun e => decide (t < e)) L
  unfold plc
  omega

/-- s: s0 behind the ends L of the slots of level lev, at the mark t. -/
structure Drn (t : Int) (lev : Nat) (s0 s : FS) (L : List Int) : Prop where
  C : s.C = s0.C
  pv : s.pv = s0.pv
  ps : s.ps = s0.ps
  m : s.m = s0.m
  bt : s.bt = s0.bt
  GM : s.GM = s0.GM
  av : s.av = s0.av
  after : s.after = s0.after
  TM : s.TM = gone t s0.TM L
  told : s.told = s0.told ++ tld s0.GM s0.C.size t L
  SL : ∀ l d, l ≠ lev → s.SL l d = plc t s0.SL L l d
  sv : ∀ d, s.sv lev d = s0.sv lev d

theorem Drn.start (t : Int) (lev : Nat) (s : FS) : Drn t lev s s [] := ⟨rfl, rfl, rfl, rfl, rfl, rfl, rfl, rfl, (gone_nil _ _).symm, by simp [tld], fun _ _ _ => rfl, fun _ => rfl⟩

theorem Drn.place {t : Int} {lev l d : Nat} {s0 s : FS} {L : List Int} {e : Int} (h : Drn t lev s0 s L) (ht : t < e) (hl : Wh.levF (Wh.rk t) (Wh.rk e) = l) (hd : Wh.dig l (Wh.rk e) = d) (hlev : l ≠ lev) (v' : Value) : Drn t lev s0 { s with sv := upd s.sv l d v', SL := upd s.SL l d (s.SL l d ++ [e]) } (L ++ [e]) := by
  refine ⟨h.C, h.pv, h.ps, h.m, h.bt, h.GM, h.av, h.after, ?_, ?_, fun a b ha => ?_, fun b => ?_⟩
  · rw [gone_snoc, if_neg (by omega)]; exact h.TM
  · rw [tld_snoc, if_neg (by omega)]; exact h.told
  · rw [plc_snoc, if_pos ht]
    unfold placeF
    rw [hl, hd]
    unfold upd
    simp only
    split
    · rw [h.SL l d hlev]
    · exact h.SL a b ha
  · show upd s.sv l d v' lev b = _
    rw [upd_other _ _ (fun hx => hlev hx.1.symm)]
    exact h.sv b

theorem Drn.tell {t : Int} {lev : Nat} {s0 s : FS} {L : List Int} {e : Int} {ks : List ByteArray} (h : Drn t lev s0 s L) (ht : e ≤ t) (hk : KeysAre (s.GM e) ks) (v' : Value) : Drn t lev s0 { s with tv := v', told := s.told ++ ks.map (paneOf (s.GM e) (e - s.C.size) e), TM := delM s.TM e } (L ++ [e]) := by
  refine ⟨h.C, h.pv, h.ps, h.m, h.bt, h.GM, h.av, h.after, ?_, ?_, fun a b ha => ?_, h.sv⟩
  · rw [gone_snoc, if_pos ht, ← h.TM]
  · rw [tld_snoc, if_pos ht, ← List.append_assoc, ← h.told]
    unfold tellE
    rw [← h.GM, ← h.C, keysL_is hk]
  · rw [plc_snoc, if_neg (by omega)]; exact h.SL a b ha

/-- A way of the flow. -/
structure Way (w0 w : World) (g : Nat) (s0 s : FS) : Prop where
  fl : FlowIs w g s
  touch : Touch (foot g s0) w0 w
  foot : ∀ k, foot g s k → foot g s0 k ∨ w0.heap.size ≤ k

theorem Way.start {w : World} {g : Nat} {s : FS} (h : FlowIs w g s) : Way w w g s s := ⟨h, Touch.refl _ _, fun _ h => .inl h⟩
theorem Way.next {w0 w1 w2 : World} {g : Nat} {s0 s1 s2 : FS} {S : Nat → Prop} (h : Way w0 w1 g s0 s1) (hf : FlowIs w2 g s2) (ht : Touch S w1 w2) (hS : ∀ k, S k → Go.Proofs.YtnnoaolceeendaaGreatDoor.foot g s1 k) (hft : ∀ k, Go.Proofs.YtnnoaolceeendaaGreatDoor.foot g s2 k → Go.Proofs.YtnnoaolceeendaaGreatDoor.foot g s1 k ∨ w1.heap.size ≤ k) : Way w0 w2 g s0 s2 :=
  ⟨hf, h.touch.trans ht (fun k hk => h.foot k (hS k hk)), fun k hk => (hft k hk).elim (h.foot k) (fun h' => .inr (Nat.le_trans h.touch.size h'))⟩

section
variable {w w' : World} {g : Nat} {s : FS}
theorem FlowIs.deleted (h : FlowIs w g s) {e : Int} (ht : Touch (fun k => k = s.bt) w w') (h1 : TlsAt w' s.bt (delM s.TM e)) : FlowIs w' g { s with TM := delM s.TM e } := by
  have hk : ∀ K k, K ≠ .tls → kd g s K k → w'.heap[k]? = w.heap[k]? := fun K k hK hk => ht.block k (h.foot_lt (foot_kd.2 ⟨K, hk⟩)) (fun hx => hK (kd_inj h hk (show kd g s .tls k from hx)))
  have hd : ∀ {x c}, delM s.TM e x = some c → s.TM x = some c := fun {x c} hc => by
    unfold delM at hc
    split at hc
    · cases hc
    · exact hc
  exact ⟨(h.ob.agree (hk .flow g (by simp) rfl)).like (fun _ _ => rfl), h.parts.agree (fun k hk' => hk .part k (by simp) hk'), h1, fun x c hc => (h.tal x c (hd hc)).agree (hk (.tal x) c (by simp) (hd hc)), fun x c hc => ⟨(h.tin x c (hd hc)).1, fun y hy => (h.tin x c (hd hc)).2 y (hd hy)⟩,
    fun l d hl hd' => (h.slot l d hl hd').agree (fun k hk' => hk (.slot l d) k (by simp) ⟨hl, hd', hk'⟩), h.sin, h.told.agree (fun k hk' => hk .pane k (by simp) hk'), h.late.agree (fun k hk' => hk .event k (by simp) hk')⟩

/-- A row of ends put in order. -/
theorem FlowIs.sorted (h : FlowIs w g s) {l d : Nat} (hl : l < 16) (hd : d < 16) {es : List Int} (hr : RowIs inC w' 0 3 1 (s.sv l d) es) (ht : Touch (fun k => (s.sv l d).ownBlock = some k) w w') : FlowIs w' g { s with SL := upd s.SL l d es } := by
  have hk : ∀ K k, K ≠ .slot l d → kd g s K k → w'.heap[k]? = w.heap[k]? := fun K k hK hk => ht.block k (h.foot_lt (foot_kd.2 ⟨K, hk⟩)) (fun hx => hK (kd_inj h hk (show kd g s (.slot l d) k from ⟨hl, hd, hx⟩)))
  refine ⟨(h.ob.agree (hk .flow g (by simp) rfl)).like (fun _ _ => rfl), h.parts.agree (fun k hk' => hk .part k (by simp) hk'), h.tls.agree (hk .tls _ (by simp) rfl), fun x c hc => (h.tal x c hc).agree (hk (.tal x) c (by simp) hc), h.tin, fun a b ha hb => ?_, h.sin, h.told.agree (fun k hk' => hk .pane k (by simp) hk'), h.late.agree (fun k hk' => hk .event k (by simp) hk')⟩
  by_cases e : a = l ∧ b = d
  · obtain ⟨rfl, rfl⟩ := e
    simp only [upd_same]
    exact hr
  · simp only [upd_other _ _ e]
    exact (h.slot a b ha hb).agree (fun k hk' => hk (.slot a b) k (fun x => e (by simp only [Kd.slot.injEq] at x; exact x)) ⟨ha, hb, hk'⟩)
end

theorem in_flat (l : List Int) : l.flatMap inC = l.map (Value.int .i64) := by rw [show inC = fun n => [Value.int .i64 n] from rfl, flat_one]

/-- slices.Sort at a slot's row. -/
theorem sort_any (g : Nat) (s : FS) (l d : Nat) (w : World) (h : FlowIs w g s) (hl : l < 16) (hd : d < 16) (hlen : (s.SL l d).length ≤ 100000000) :
    Calls Tryz.prog 122 #[s.sv l d] w fun r w' => r = .returned (.tuple #[]) ∧ FlowIs w' g { s with SL := upd s.SL l d (sortI (s.SL l d)) } ∧ Touch (fun k => (s.sv l d).ownBlock = some k) w w' := by
  have hr := h.slot l d hl hd
  rcases hr.2 with ⟨e1, e2⟩ | ⟨b, cap, cur, e1, hb, hh, h1, h2, h3, h4⟩
  · have e3 : s.SL l d = [] := List.length_eq_zero_iff.1 e2
    rw [e1]
    refine (shelf_sort_none none 0 w).mono ?_
    rintro r w' ⟨rfl, rfl⟩
    refine ⟨rfl, h.sorted hl hd ?_ (Touch.refl _ _), Touch.refl _ _⟩
    rw [e3] at hr ⊢
    rw [show sortI [] = [] from List.length_eq_zero_iff.1 (by rw [sortI_len]; rfl)]
    exact hr
  · rw [in_flat] at h4
    have h5 : cur.toList.take (s.SL l d).length = (s.SL l d).map (Value.int .i64) := by simpa using h4
    have hH : Sort.Holds (Value.int .i64) w b 0 (s.SL l d).toArray := holds_of_blockI hh h5
    rw [e1]
    refine (shelf_sort b 0 cap (s.SL l d) w hH (lt_of_block hh) (by omega)).mono ?_
    rintro r w' ⟨rfl, n, os, rfl⟩
    have R := ownsRow_sortedI (w := w) (n := n) (os := os) (base := 0) (ss := s.SL l d) (ts := sortI (s.SL l d)) (sortI_len _) hb hh h1 h2 h3
    have G1 : w.grownBy (Sort.grow (Sort.putRow (Value.int .i64) (Sort.ahead w n) b 0 (sortI (s.SL l d)).toArray) os) (some b) := grownBy_sortedI _
    have T1 := Touch.grown (S := fun k => (s.sv l d).ownBlock = some k) G1 (fun k hk => by rw [e1]; exact hk)
    have T2 : Touch (fun k => (Value.slice (some ⟨b, 0, none⟩) (s.SL l d).length cap).ownBlock = some k) w (Sort.grow (Sort.putRow (Value.int .i64) (Sort.ahead w n) b 0 (sortI (s.SL l d)).toArray) os) := by rw [← e1]; exact T1
    refine ⟨rfl, h.sorted hl hd ?_ T1, T2⟩
    unfold RowIs
    rw [in_flat, sortI_len, e1]
    exact R
end Go.Proofs.YtnnoaolceeendaaGreatDoor
