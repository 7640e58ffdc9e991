import Derived.Test.YtnnoaolceeendaaGreatDoorTideC
/-! Streams of which nothing is too far back: nothing is late, and in the end all is told. -/
namespace Go.Proofs.YtnnoaolceeendaaGreatDoor.M

def clipT (bound t : Int) : Int := if t < minT + bound then minT else t - bound

theorem clip_mono {bound s t : Int} (h : s ≤ t) : clipT bound s ≤ clipT bound t := by unfold clipT; split <;> split <;> omega
theorem clip_lo (bound t : Int) : minT ≤ clipT bound t := by unfold clipT; split <;> omega

theorem allows_any {bound : Int} {p : Pt} (h : p.any = true) : allows bound p = clipT bound p.most := by simp [allows, clipT, h]
theorem allows_no {bound : Int} {p : Pt} (h : p.any = false) : allows bound p = minT := by simp [allows, h]
theorem allows_lo (bound : Int) (p : Pt) : minT ≤ allows bound p := by
  cases h : p.any
  · rw [allows_no h]; exact Int.le_refl _
  · rw [allows_any h]; exact clip_lo _ _
theorem allows_take (bound t : Int) (p : Pt) : allows bound p ≤ allows bound (takeP t p) := by
  cases h : p.any
  · rw [allows_no h]; exact allows_lo _ _
  · rw [allows_any h, allows_any (p := takeP t p) rfl]
    apply clip_mono
    simp only [takeP, h]
    split
    · rename_i hc
      rcases hc with hc | hc
      · simp at hc
      · omega
    · exact Int.le_refl _

theorem leastOf_mem {bound : Int} {p : Pt} : ∀ {ps : List Pt}, p ∈ ps → p.ended = false → p.idle = false → leastOf bound ps ≤ allows bound p
  | q :: r, h, h1, h2 => by
    unfold leastOf
    rcases List.mem_cons.1 h with e | e
    · subst e
      split
      · exact Int.le_refl _
      · rename_i hc
        have : ¬ allows bound p < leastOf bound r := fun h => hc ⟨h1, h2, h⟩
        omega
    · have := leastOf_mem (bound := bound) e h1 h2
      split <;> omega

section
variable {K : Type}

def trs (ws : Int → List Int) (e : Ev K) : List (Tr K) := (ws e.at_).map fun b => ⟨b, e.key, e.val⟩

/-- y is not too far behind x, if they are of one part. -/
def Near (bound : Int) (x y : Ev K) : Prop := x.part = y.part → clipT bound x.at_ ≤ y.at_

structure WinOk (size : Int) (ws : Int → List Int) : Prop where
  has : ∀ t b, b ∈ ws t → t < b + size
  fit : ∀ t b, b ∈ ws t → b + size ≤ maxT

/-- What is not told and what is told are, together, what is counted. -/
def Whole (opn told c : List (Pn K)) : Prop := ∀ x, (x ∈ opn ∨ x ∈ told) ↔ x ∈ c

theorem tell_whole {lt : K → K → Bool} (ho : SO lt) {m : Int} {f : Fl K} {c : List (Pn K)} (ha : Apart f.opn) (h : Whole f.opn f.told c) : Whole (tellF lt m f).opn (tellF lt m f).told c := fun x => by
  rw [← h x]
  have hp := (sortP_perm ho (filter_apart ha fun p => decide (p.stop ≤ m))).mem_iff (a := x)
  show (x ∈ f.opn.filter _ ∨ x ∈ f.told ++ sortP lt _) ↔ _
  rw [List.mem_append, hp, List.mem_filter, List.mem_filter]
  simp only [decide_eq_true_eq]
  constructor
  · rintro (⟨a, _⟩ | a | ⟨a, _⟩)
    · exact .inl a
    · exact .inr a
    · exact .inl a
  · rintro (a | a)
    · rcases Int.lt_or_le m x.stop with hm | hm
      · exact .inl ⟨a, hm⟩
      · exact .inr (.inr ⟨a, hm⟩)
    · exact .inr (.inl a)

end

section
variable {K : Type} [DecidableEq K]

def allC (size fold : Int) (ws : Int → List Int) (u : List (Ev K)) : List (Pn K) := (u.flatMap (trs ws)).foldl (putT size fold) []

theorem allC_snoc (size fold : Int) (ws : Int → List Int) (u : List (Ev K)) (e : Ev K) : allC size fold ws (u ++ [e]) = (trs ws e).foldl (putT size fold) (allC size fold ws u) := by
  simp [allC, List.flatMap_append, List.foldl_append]

theorem allC_apart (size fold : Int) (ws : Int → List Int) (u : List (Ev K)) : Apart (allC size fold ws u) := foldl_apart _ List.Pairwise.nil

theorem allC_perm {size fold : Int} {ws : Int → List Int} {u v : List (Ev K)} (h : (u.flatMap (trs ws)).Perm (v.flatMap (trs ws))) : Eqv (allC size fold ws u) (allC size fold ws v) := Eqv.perm h List.Pairwise.nil

theorem countAll_on {size fold now v : Int} {key : K} : ∀ {ws : List Int} {l : List (Pn K)}, (∀ b ∈ ws, now < b + size) → countAll size fold now key v ws l = (ws.map fun b => (⟨b, key, v⟩ : Tr K)).foldl (putT size fold) l
  | [], _, _ => rfl
  | b :: ws, l, h => by
    show countAll size fold now key v ws (if now < b + size then countP size fold b key v l else l) = _
    rw [if_pos (h b (by simp)), countAll_on (fun c hc => h c (by simp [hc]))]
    rfl

theorem Whole.put {size fold now : Int} {opn told c : List (Pn K)} (h : Whole opn told c) (ho : Apart opn) (hc : Apart c) (ht : ∀ p ∈ told, p.stop ≤ now ∧ p.stop = p.start + size) (t : Tr K) (hn : now < t.b + size) :
    Whole (putT size fold opn t) told (putT size fold c t) := fun x => by
  have hno : ∀ p ∈ told, ¬ isAt t.b t.key p := fun p hp hat => by have := ht p hp; have := hat.1; omega
  unfold putT
  rw [countP_iff ho, countP_iff hc]
  constructor
  · rintro ((⟨a, b⟩ | ⟨y, hy, a⟩ | ⟨a, b⟩) | hx)
    · exact .inl ⟨(h x).1 (.inl a), b⟩
    · exact .inr (.inl ⟨y, (h y).1 (.inl hy), a⟩)
    · refine .inr (.inr ⟨fun y hy => ?_, b⟩)
      rcases (h y).2 hy with e | e
      · exact a y e
      · exact hno y e
    · exact .inl ⟨(h x).1 (.inr hx), hno x hx⟩
  · rintro (⟨a, b⟩ | ⟨y, hy, a⟩ | ⟨a, b⟩)
    · rcases (h x).2 a with e | e
      · exact .inl (.inl ⟨e, b⟩)
      · exact .inr e
    · rcases (h y).2 hy with e | e
      · exact .inl (.inr (.inl ⟨y, e, a⟩))
      · exact absurd a.1 (hno y e)
    · exact .inl (.inr (.inr ⟨fun y hy => a y ((h y).1 (.inl hy)), b⟩))

theorem Whole.puts {size fold now : Int} {told : List (Pn K)} (ht : ∀ p ∈ told, p.stop ≤ now ∧ p.stop = p.start + size) : ∀ (ts : List (Tr K)) {opn c : List (Pn K)}, Whole opn told c → Apart opn → Apart c → (∀ t ∈ ts, now < t.b + size) →
    Whole (ts.foldl (putT size fold) opn) told (ts.foldl (putT size fold) c)
  | [], _, _, h, _, _, _ => h
  | t :: ts, _, _, h, ho, hc, hn => Whole.puts ht ts (h.put ho hc ht t (hn t (by simp))) (countP_apart ho) (countP_apart hc) (fun s hs => hn s (by simp [hs]))

theorem puts_stop {size fold : Int} : ∀ (ts : List (Tr K)) {l : List (Pn K)}, (∀ p ∈ l, p.stop ≤ maxT) → (∀ t ∈ ts, t.b + size ≤ maxT) → ∀ p ∈ ts.foldl (putT size fold) l, p.stop ≤ maxT
  | [], _, h, _ => h
  | t :: ts, l, h, hn => puts_stop ts (l := putT size fold l t) (fun p hp => by
      rcases countP_mem hp with e | ⟨_, _, e | ⟨y, hy, _, _, e⟩⟩
      · exact h p e
      · rw [e]; exact hn t (by simp)
      · rw [e]; exact h y hy) (fun s hs => hn s (by simp [hs]))

/-- What holds behind the events u, no part having ended. -/
structure Run (lt : K → K → Bool) (size fold bound : Int) (ws : Int → List Int) (n : Nat) (u : List (Ev K)) (f : Fl K) : Prop where
  inv : Inv lt size f
  len : f.parts.length = n
  alive : ∀ p ∈ f.parts, p.ended = false ∧ p.idle = false
  most : ∀ (i : Nat) (p : Pt), f.parts[i]? = some p → p.any = true → ∃ x ∈ u, x.part = (i : Int) ∧ x.at_ = p.most
  mark : ∀ p ∈ f.parts, f.now ≤ allows bound p
  whole : Whole f.opn f.told (allC size fold ws u)
  after : f.after = u.filter fun e => (ws e.at_).isEmpty
  fit : ∀ p ∈ f.opn, p.stop ≤ maxT

theorem Run.take {lt : K → K → Bool} (ho : SO lt) {size fold bound : Int} {ws : Int → List Int} (hw : WinOk size ws) {n : Nat} {u : List (Ev K)} {f : Fl K} (r : Run lt size fold bound ws n u f) (e : Ev K) (hp0 : 0 ≤ e.part) (hpn : e.part < n)
    (hat : minT ≤ e.at_) (hnear : ∀ x ∈ u, Near bound x e) : Run lt size fold bound ws n (u ++ [e]) (takeF lt size fold bound ws e f) ∧ f.now ≤ e.at_ := by
  obtain ⟨i, hi⟩ := Int.eq_ofNat_of_zero_le hp0
  have hin : i < f.parts.length := by rw [r.len]; omega
  -- the mark is not beyond the event
  have hnow : f.now ≤ e.at_ := by
    have hm := r.mark _ (List.getElem_mem hin)
    cases ha : (f.parts[i]).any
    · rw [allows_no ha] at hm; omega
    · obtain ⟨x, hx, h1, h2⟩ := r.most i _ (List.getElem?_eq_getElem hin) ha
      rw [allows_any ha, ← h2] at hm
      have := hnear x hx (by rw [h1, hi])
      omega
  have hopen : ∀ b ∈ ws e.at_, f.now < b + size := fun b hb => by have := hw.has _ b hb; omega
  have hts : ∀ t ∈ trs ws e, f.now < t.b + size := fun t ht => by
    obtain ⟨b, hb, rfl⟩ := List.mem_map.1 ht
    exact hopen b hb
  have hfit : ∀ t ∈ trs ws e, t.b + size ≤ maxT := fun t ht => by
    obtain ⟨b, hb, rfl⟩ := List.mem_map.1 ht
    exact hw.fit _ b hb
  have ec : countAll size fold f.now e.key e.val (ws e.at_) f.opn = (trs ws e).foldl (putT size fold) f.opn := countAll_on hopen
  have hwh : Whole ((trs ws e).foldl (putT size fold) f.opn) f.told (allC size fold ws (u ++ [e])) := by
    rw [allC_snoc]
    exact Whole.puts r.inv.told _ r.whole r.inv.opn.apart (allC_apart ..) hts
  have hti : e.part.toNat = i := by rw [hi]; rfl
  have hI := (take_inv (fold := fold) (bound := bound) (ws := ws) ho e r.inv).1
  have hparts : (takeF lt size fold bound ws e f).parts = f.parts.modify i (takeP e.at_) := by rw [← hti]; rfl
  have hget : ∀ (j : Nat) (p : Pt), (f.parts.modify i (takeP e.at_))[j]? = some p → (j = i ∧ p = takeP e.at_ f.parts[i]) ∨ f.parts[j]? = some p := fun j p hj => by
    rw [List.getElem?_modify] at hj
    split at hj
    · rename_i hji
      subst hji
      rw [List.getElem?_eq_getElem hin] at hj
      simp only [Option.map_eq_map, Option.map_some, Option.some.injEq] at hj
      exact .inl ⟨rfl, hj.symm⟩
    · right
      simpa using hj
  have hmem : ∀ p ∈ f.parts.modify i (takeP e.at_), p = takeP e.at_ f.parts[i] ∨ p ∈ f.parts := fun p hp => by
    obtain ⟨j, hj⟩ := List.mem_iff_getElem?.1 hp
    rcases hget j p hj with ⟨_, h⟩ | h
    · exact .inl h
    · exact .inr (List.mem_of_getElem? h)
  have halive : ∀ p ∈ f.parts.modify i (takeP e.at_), p.ended = false ∧ p.idle = false := fun p hp => by
    rcases hmem p hp with h | h
    · subst h; exact ⟨(r.alive _ (List.getElem_mem hin)).1, rfl⟩
    · exact r.alive p h
  have hall : ∀ p ∈ f.parts.modify i (takeP e.at_), f.now ≤ allows bound p := fun p hp => by
    rcases hmem p hp with h | h
    · subst h
      have := r.mark _ (List.getElem_mem hin)
      have := allows_take bound e.at_ f.parts[i]
      omega
    · exact r.mark p h
  have hmark : (takeF lt size fold bound ws e f).now = markOf bound f.now (f.parts.modify i (takeP e.at_)) := by rw [← hti]; rfl
  refine ⟨⟨hI, ?_, ?_, ?_, ?_, ?_, ?_, ?_⟩, hnow⟩
  · rw [hparts, List.length_modify]; exact r.len
  · rw [hparts]; exact halive
  · rw [hparts]
    intro j p hj hany
    rcases hget j p hj with ⟨rfl, h⟩ | h
    · subst h
      simp only [takeP]
      split
      · exact ⟨e, by simp, hi, rfl⟩
      · rename_i hc
        have ha : (f.parts[j]).any = true := by
          cases hh : (f.parts[j]).any
          · exact absurd (Or.inl hh) hc
          · rfl
        obtain ⟨x, hx, h1, h2⟩ := r.most j _ (List.getElem?_eq_getElem hin) ha
        exact ⟨x, by simp [hx], h1, h2⟩
    · obtain ⟨x, hx, h1, h2⟩ := r.most j p h hany
      exact ⟨x, by simp [hx], h1, h2⟩
  · rw [hparts, hmark]
    intro p hp
    unfold markOf
    split
    · rename_i hao
      have := List.all_eq_true.1 hao p hp
      rw [(halive p hp).1] at this
      simp at this
    · split
      · exact leastOf_mem hp (halive p hp).1 (halive p hp).2
      · exact hall p hp
  · have := tell_whole ho (m := markOf bound f.now (f.parts.modify e.part.toNat (takeP e.at_))) (f := { f with parts := f.parts.modify e.part.toNat (takeP e.at_), opn := countAll size fold f.now e.key e.val (ws e.at_) f.opn, after := if isLate size f.now (ws e.at_) = true then f.after ++ [e] else f.after }) (c := allC size fold ws (u ++ [e])) (OpenOk.all r.inv.opn).apart (by
      show Whole (countAll size fold f.now e.key e.val (ws e.at_) f.opn) f.told _
      rw [ec]; exact hwh)
    exact this
  · show (if isLate size f.now (ws e.at_) = true then f.after ++ [e] else f.after) = _
    rw [List.filter_append, r.after]
    cases hws : ws e.at_ with
    | nil => simp [isLate, hws]
    | cons b l =>
      have := hopen b (by rw [hws]; simp)
      have hl : isLate size f.now (b :: l) = false := by
        simp only [isLate, List.all_cons, Bool.and_eq_false_iff, decide_eq_false_iff_not]
        exact .inl (by omega)
      simp [hl, hws]
  · intro p hp
    have hp' : p ∈ countAll size fold f.now e.key e.val (ws e.at_) f.opn := (List.mem_filter.1 hp).1
    rw [ec] at hp'
    exact puts_stop _ r.fit hfit p hp'
end
end Go.Proofs.YtnnoaolceeendaaGreatDoor.M
