import Derived.Test.YtnnoaolceeendaaGreatDoorTideD
/-! Whole streams: however they come between one another. -/
namespace Go.Proofs.YtnnoaolceeendaaGreatDoor.M
section
variable {K : Type} [DecidableEq K] {lt : K → K → Bool}

def newP : Pt := ⟨false, 0, false, false, 0⟩
def newF (n : Nat) : Fl K := ⟨List.replicate n newP, minT, [], [], []⟩

theorem Run.start (size fold bound : Int) (ws : Int → List Int) (n : Nat) : Run lt size fold bound ws n ([] : List (Ev K)) (newF n) :=
  ⟨⟨⟨by simp [newF], by simp [newF, Apart]⟩, by simp [newF], by simp [newF, Sorted], by simp [newF, minT, maxT], by simp [newF, minT]⟩, by simp [newF],
    fun p hp => by have := List.eq_of_mem_replicate hp; subst this; exact ⟨rfl, rfl⟩,
    fun i p hp ha => by
      have := List.eq_of_mem_replicate (List.mem_of_getElem? hp)
      subst this
      simp [newP] at ha,
    fun p hp => by have := List.eq_of_mem_replicate hp; subst this; exact allows_lo _ _,
    fun x => by simp [newF, allC], by simp [newF], by simp [newF]⟩

theorem Run.takes (ho : SO lt) {size fold bound : Int} {ws : Int → List Int} (hw : WinOk size ws) {n : Nat} : ∀ (w : List (Ev K)) {u : List (Ev K)} {f : Fl K}, Run lt size fold bound ws n u f →
    (∀ e ∈ w, 0 ≤ e.part ∧ e.part < n ∧ minT ≤ e.at_) → (u ++ w).Pairwise (Near bound) → Run lt size fold bound ws n (u ++ w) (w.foldl (fun f e => takeF lt size fold bound ws e f) f)
  | [], u, f, r, _, _ => by simpa using r
  | e :: w, u, f, r, h, hp => by
    have he := h e (by simp)
    have hn : ∀ x ∈ u, Near bound x e := fun x hx => (List.pairwise_append.1 hp).2.2 x hx e (by simp)
    have := Run.takes ho hw w (r.take ho hw e he.1 he.2.1 he.2.2 hn).1 (fun e' h' => h e' (by simp [h'])) (by simpa using hp)
    simpa using this

/-- What holds while the parts end, one behind the other. -/
structure Ends (lt : K → K → Bool) (size fold : Int) (ws : Int → List Int) (n : Nat) (w : List (Ev K)) (k : Nat) (f : Fl K) : Prop where
  inv : Inv lt size f
  len : f.parts.length = n
  ended : ∀ (i : Nat) (p : Pt), f.parts[i]? = some p → (p.ended = true ↔ i < k)
  whole : Whole f.opn f.told (allC size fold ws w)
  after : f.after = w.filter fun e => (ws e.at_).isEmpty
  fit : ∀ p ∈ f.opn, p.stop ≤ maxT
  last : k = n → f.now = maxT

theorem Run.ends {size fold bound : Int} {ws : Int → List Int} {n : Nat} {w : List (Ev K)} {f : Fl K} (r : Run lt size fold bound ws n w f) (hn : 1 ≤ n) : Ends lt size fold ws n w 0 f :=
  ⟨r.inv, r.len, fun i p hp => by have := (r.alive p (List.mem_of_getElem? hp)).1; simp [this], r.whole, r.after, r.fit, fun h => by omega⟩

theorem Ends.step (ho : SO lt) {size fold bound : Int} {ws : Int → List Int} {n : Nat} {w : List (Ev K)} {k : Nat} {f : Fl K} (r : Ends lt size fold ws n w k f) (hk : k < n) : Ends lt size fold ws n w (k + 1) (endF lt bound k f) := by
  have hparts : (endF lt bound k f).parts = f.parts.modify k (fun p => { p with ended := true }) := rfl
  have hkl : k < f.parts.length := by rw [r.len]; exact hk
  have hend : ∀ (i : Nat) (p : Pt), (f.parts.modify k (fun p => { p with ended := true }))[i]? = some p → (p.ended = true ↔ i < k + 1) := fun i p hp => by
    rw [List.getElem?_modify] at hp
    split at hp
    · rename_i e
      subst e
      rw [List.getElem?_eq_getElem hkl] at hp
      simp only [Option.map_eq_map, Option.map_some, Option.some.injEq] at hp
      subst hp
      simp
    · have := r.ended i p (by simpa using hp)
      rw [this]; omega
  refine ⟨(end_inv (bound := bound) ho k r.inv).1, by rw [hparts, List.length_modify]; exact r.len, by rw [hparts]; exact hend, ?_, r.after, ?_, ?_⟩
  · exact tell_whole ho (f := { f with parts := _ }) r.inv.opn.apart r.whole
  · intro p hp
    exact r.fit p (List.mem_filter.1 hp).1
  · intro hkn
    show markOf bound f.now (f.parts.modify k (fun p => { p with ended := true })) = maxT
    unfold markOf
    rw [if_pos]
    refine List.all_eq_true.2 fun p hp => ?_
    obtain ⟨j, hj⟩ := List.mem_iff_getElem?.1 hp
    have hlt := (List.getElem?_eq_some_iff.1 hj).1
    rw [List.length_modify, r.len] at hlt
    exact (hend j p hj).2 (by omega)

def endsF (lt : K → K → Bool) (bound : Int) : Nat → Fl K → Fl K
  | 0, f => f
  | k + 1, f => endF lt bound k (endsF lt bound k f)

theorem Ends.all (ho : SO lt) {size fold bound : Int} {ws : Int → List Int} {n : Nat} {w : List (Ev K)} {f : Fl K} (r : Ends lt size fold ws n w 0 f) : ∀ k, k ≤ n → Ends lt size fold ws n w k (endsF lt bound k f)
  | 0, _ => r
  | k + 1, h => (Ends.all ho r k (by omega)).step ho (by omega)

theorem Ends.done (ho : SO lt) {size fold : Int} {ws : Int → List Int} {n : Nat} {w : List (Ev K)} {f : Fl K} (r : Ends lt size fold ws n w n f) :
    f.told = sortP lt (allC size fold ws w) ∧ f.now = maxT ∧ f.after = w.filter fun e => (ws e.at_).isEmpty := by
  have hc := allC_apart size fold ws w
  refine ⟨sorted_eq ho r.inv.sorted (sortP_sorted ho hc) fun x => ?_, r.last rfl, r.after⟩
  rw [(sortP_perm ho hc).mem_iff, ← r.whole x]
  constructor
  · exact .inr
  · rintro (h | h)
    · have h1 := (r.inv.opn.stop x h).1
      have h2 := r.fit x h
      rw [r.last rfl] at h1
      omega
    · exact h

end

/-! ### Streams: what is too far back -/
section
variable {K : Type}

theorem sortP_eqv {lt : K → K → Bool} (ho : SO lt) {l m : List (Pn K)} (h : Eqv l m) : sortP lt l = sortP lt m :=
  sorted_eq ho (sortP_sorted ho h.left) (sortP_sorted ho h.right) fun x => by rw [(sortP_perm ho h.left).mem_iff, (sortP_perm ho h.right).mem_iff]; exact h.mem x
def lowE (bound : Int) (seen : List (Ev K)) (e : Ev K) : Bool := seen.any fun x => decide (e.at_ < clipT bound x.at_)

def keptOf (bound : Int) : List (Ev K) → List (Ev K) → List (Ev K)
  | _, [] => []
  | seen, e :: r => (if lowE bound seen e = true then [] else [e]) ++ keptOf bound (seen ++ [e]) r
def dropOf (bound : Int) : List (Ev K) → List (Ev K) → List (Ev K)
  | _, [] => []
  | seen, e :: r => (if lowE bound seen e = true then [e] else []) ++ dropOf bound (seen ++ [e]) r

def NearT (bound : Int) (x y : Ev K) : Prop := clipT bound x.at_ ≤ y.at_

theorem low_no {bound : Int} {seen : List (Ev K)} {e : Ev K} (h : ¬ lowE bound seen e = true) : ∀ x ∈ seen, NearT bound x e := fun x hx => by
  unfold lowE at h
  rw [List.any_eq_true] at h
  unfold NearT
  rcases Int.lt_or_le e.at_ (clipT bound x.at_) with h' | h'
  · exact absurd ⟨x, hx, by simpa using h'⟩ h
  · exact h'

theorem kept_near {bound : Int} : ∀ (l seen : List (Ev K)), (∀ y ∈ keptOf bound seen l, ∀ x ∈ seen, NearT bound x y) ∧ (keptOf bound seen l).Pairwise (NearT bound)
  | [], seen => by simp [keptOf]
  | e :: r, seen => by
    have ih := kept_near (bound := bound) r (seen ++ [e])
    unfold keptOf
    split
    · simp only [List.nil_append]
      exact ⟨fun y hy x hx => ih.1 y hy x (by simp [hx]), ih.2⟩
    · rename_i hl
      simp only [List.cons_append, List.nil_append]
      refine ⟨fun y hy x hx => ?_, List.pairwise_cons.2 ⟨fun y hy => ih.1 y hy e (by simp), ih.2⟩⟩
      rcases List.mem_cons.1 hy with h | h
      · subst h; exact low_no hl x hx
      · exact ih.1 y h x (by simp [hx])

/-- Of what is near nothing is dropped. -/
theorem near_kept {bound : Int} : ∀ (l seen : List (Ev K)), (∀ y ∈ l, ∀ x ∈ seen, NearT bound x y) → l.Pairwise (NearT bound) → keptOf bound seen l = l ∧ dropOf bound seen l = []
  | [], _, _, _ => ⟨rfl, rfl⟩
  | e :: r, seen, h1, h2 => by
    have h2' := List.pairwise_cons.1 h2
    have hl : ¬ lowE bound seen e = true := by
      unfold lowE
      rw [List.any_eq_true]
      rintro ⟨x, hx, hd⟩
      have := h1 e (by simp) x hx
      unfold NearT at this
      simp at hd
      omega
    have ih := near_kept r (seen ++ [e]) (fun y hy x hx => by
      rcases List.mem_append.1 hx with h | h
      · exact h1 y (by simp [hy]) x h
      · simp at h; subst h; exact h2'.1 y hy) h2'.2
    unfold keptOf dropOf
    rw [if_neg hl, if_neg hl, ih.1, ih.2]
    exact ⟨rfl, rfl⟩

/-! ### Streams woven into one -/
def setPart (k : Nat) (e : Ev K) : Ev K := { e with part := k }

def ofPart (k : Nat) (w : List (Ev K)) : List (Ev K) := w.filter fun e => decide (e.part = (k : Int))

/-- w is made of the streams: of each part just that stream's, in its order. -/
structure Woven (ks : List (List (Ev K))) (w : List (Ev K)) : Prop where
  parts : ∀ e ∈ w, 0 ≤ e.part ∧ e.part < ks.length
  each : ∀ (k : Nat) (s : List (Ev K)), ks[k]? = some s → ofPart k w = s.map (setPart k)

theorem flat_ins {α : Type} (g : Nat → List α) (e : α) (i : Nat) : ∀ (l : List Nat), l.Nodup → i ∈ l → (l.flatMap fun k => if k = i then e :: g k else g k).Perm (e :: l.flatMap g)
  | k :: l, hn, hi => by
    have hn' := List.nodup_cons.1 hn
    simp only [List.flatMap_cons]
    by_cases h : k = i
    · subst h
      have e1 : (l.flatMap fun k' => if k' = k then e :: g k' else g k') = l.flatMap g := by
        rw [List.flatMap_def, List.flatMap_def]
        congr 1
        exact List.map_congr_left fun a ha => if_neg (fun (h' : a = k) => hn'.1 (by rw [← h']; exact ha))
      rw [if_pos rfl, e1]
      exact List.Perm.refl _
    · rw [if_neg h]
      rcases List.mem_cons.1 hi with h' | h'
      · exact absurd h'.symm h
      · exact (List.Perm.append_left _ (flat_ins g e i l hn'.2 h')).trans List.perm_middle

theorem filters_perm (n : Nat) : ∀ (w : List (Ev K)), (∀ e ∈ w, 0 ≤ e.part ∧ e.part < n) → w.Perm ((List.range n).flatMap fun k => ofPart k w)
  | [], _ => by simp [ofPart]
  | e :: w, h => by
    obtain ⟨i, hi⟩ := Int.eq_ofNat_of_zero_le (h e (by simp)).1
    have hin : i < n := by have := (h e (by simp)).2; omega
    have ih := filters_perm n w fun e' h' => h e' (by simp [h'])
    have e1 : ((List.range n).flatMap fun k => ofPart k (e :: w)) = (List.range n).flatMap fun k => if k = i then e :: ofPart k w else ofPart k w := by
      rw [List.flatMap_def, List.flatMap_def]
      congr 1
      refine List.map_congr_left fun k _ => ?_
      unfold ofPart
      rw [List.filter_cons]
      by_cases hk : k = i
      · subst hk; simp [hi]
      · rw [if_neg hk, if_neg]
        simp only [hi, decide_eq_true_eq]
        intro h'
        exact hk (by omega)
    rw [e1]
    exact (List.Perm.cons e ih).trans (flat_ins _ e i (List.range n) List.nodup_range (List.mem_range.2 hin)).symm

theorem flat_parts (ks : List (List (Ev K))) (g : List (Ev K) → Nat → List (Ev K)) : ((List.range ks.length).flatMap fun k => match ks[k]? with | some s => g s k | none => []) = (ks.zipIdx.flatMap fun x => g x.1 x.2) := by
  rw [List.flatMap_def, List.flatMap_def]
  congr 1
  apply List.ext_getElem
  · simp
  · intro i h1 h2
    simp at h1
    simp [h1]

theorem trs_setPart (ws : Int → List Int) (k : Nat) (e : Ev K) : trs ws (setPart k e) = trs ws e := rfl

theorem Woven.perm {ks : List (List (Ev K))} {w : List (Ev K)} (h : Woven ks w) (ws : Int → List Int) : (w.flatMap (trs ws)).Perm (ks.flatten.flatMap (trs ws)) := by
  have h1 := (filters_perm ks.length w h.parts).flatMap_right (trs ws)
  refine h1.trans ?_
  have e1 : ((List.range ks.length).flatMap fun k => ofPart k w) = (List.range ks.length).flatMap fun k => match ks[k]? with | some s => s.map (setPart k) | none => [] := by
    rw [List.flatMap_def, List.flatMap_def]
    congr 1
    refine List.map_congr_left fun k hk => ?_
    have hk' := List.mem_range.1 hk
    rw [h.each k _ (List.getElem?_eq_getElem hk'), List.getElem?_eq_getElem hk']
  rw [e1, flat_parts ks (fun s k => s.map (setPart k))]
  have e2 : ∀ (l : List (List (Ev K))) (j : Nat), ((l.zipIdx j).flatMap fun x => x.1.map (setPart x.2)).flatMap (trs ws) = l.flatten.flatMap (trs ws) := by
    intro l
    induction l with
    | nil => intro j; rfl
    | cons s l ih =>
      intro j
      simp only [List.zipIdx_cons, List.flatMap_cons, List.flatMap_append, List.flatten_cons, ih]
      congr 1
      rw [List.flatMap_def, List.flatMap_def, List.map_map]
      rfl
  rw [e2]

theorem Woven.near {bound : Int} {ks : List (List (Ev K))} {w : List (Ev K)} (h : Woven ks w) (hk : ∀ s ∈ ks, s.Pairwise (NearT bound)) : w.Pairwise (Near bound) := by
  rw [List.pairwise_iff_getElem]
  intro i j hi hj hij hp
  obtain ⟨k, hkp⟩ := Int.eq_ofNat_of_zero_le (h.parts _ (List.getElem_mem hi)).1
  have hkl : k < ks.length := by have := (h.parts _ (List.getElem_mem hi)).2; omega
  have he := h.each k _ (List.getElem?_eq_getElem hkl)
  have hs : (ks[k].map (setPart k)).Pairwise (NearT bound) := List.pairwise_map.2 (hk _ (List.getElem_mem hkl))
  rw [← he, ofPart, List.pairwise_filter] at hs
  exact (List.pairwise_iff_getElem.1 hs) i j hi hj hij (by simp [hkp]) (by simp [← hp, hkp])
end

/-! ### The whole of it -/
section
variable {K : Type} [DecidableEq K] {lt : K → K → Bool}

theorem same_run (ho : SO lt) {size fold bound : Int} {ws : Int → List Int} (hw : WinOk size ws) {ks : List (List (Ev K))} (hn : 1 ≤ ks.length) {w : List (Ev K)} (h : Woven ks w) (hat : ∀ e ∈ w, minT ≤ e.at_) (hk : ∀ s ∈ ks, s.Pairwise (NearT bound)) :
    ∀ g, g = endsF lt bound ks.length (w.foldl (fun f e => takeF lt size fold bound ws e f) (newF ks.length)) → g.told = sortP lt (allC size fold ws ks.flatten) ∧ g.now = maxT ∧ g.after = w.filter fun e => (ws e.at_).isEmpty := by
  intro g hg
  have r := Run.takes ho hw w (Run.start (lt := lt) size fold bound ws ks.length) (fun e he => ⟨(h.parts e he).1, (h.parts e he).2, hat e he⟩) (by simpa using h.near hk)
  have d := (Ends.all (bound := bound) ho (r.ends hn) ks.length (Nat.le_refl _)).done ho
  rw [List.nil_append] at d
  rw [← hg] at d
  exact ⟨d.1.trans (sortP_eqv ho (allC_perm (h.perm ws))), d.2⟩
end
end Go.Proofs.YtnnoaolceeendaaGreatDoor.M
