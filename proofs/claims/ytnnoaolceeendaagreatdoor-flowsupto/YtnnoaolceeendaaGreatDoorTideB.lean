import Derived.Test.YtnnoaolceeendaaGreatDoorTideA
/-! What every script keeps: nothing told is told again, the mark never goes back. -/
namespace Go.Proofs.YtnnoaolceeendaaGreatDoor.M
section
variable {K : Type}
/-- Panes that are not told: windows of that size that are not over. -/
structure OpenOk (size now : Int) (l : List (Pn K)) : Prop where
  stop : ∀ p ∈ l, now < p.stop ∧ p.stop = p.start + size
  apart : Apart l

end

section
variable {K : Type} [DecidableEq K]

theorem countP_mem {size fold start v : Int} {key : K} {x : Pn K} : ∀ {l : List (Pn K)}, x ∈ countP size fold start key v l →
    x ∈ l ∨ (x.start = start ∧ x.key = key ∧ (x.stop = start + size ∨ ∃ y ∈ l, y.start = start ∧ y.key = key ∧ x.stop = y.stop))
  | [], h => by
    simp only [countP, List.mem_singleton] at h
    subst h
    exact .inr ⟨rfl, rfl, .inl rfl⟩
  | p :: r, h => by
    unfold countP at h
    split at h
    · rename_i hc
      rcases List.mem_cons.1 h with e | e
      · subst e
        exact .inr ⟨hc.1, hc.2, .inr ⟨p, by simp, hc.1, hc.2, rfl⟩⟩
      · exact .inl (by simp [e])
    · rcases List.mem_cons.1 h with e | e
      · exact .inl (by simp [e])
      · rcases countP_mem e with e | ⟨h1, h2, h3 | ⟨y, hy, h3⟩⟩
        · exact .inl (by simp [e])
        · exact .inr ⟨h1, h2, .inl h3⟩
        · exact .inr ⟨h1, h2, .inr ⟨y, by simp [hy], h3⟩⟩

theorem countP_apart {size fold start v : Int} {key : K} : ∀ {l : List (Pn K)}, Apart l → Apart (countP size fold start key v l)
  | [], _ => by simp [countP, Apart]
  | p :: r, h => by
    have h' := List.pairwise_cons.1 h
    unfold countP
    split
    · exact List.pairwise_cons.2 ⟨fun y hy => h'.1 y hy, h'.2⟩
    · rename_i hc
      refine List.pairwise_cons.2 ⟨fun y hy he => ?_, countP_apart h'.2⟩
      rcases countP_mem hy with e | ⟨h1, h2, _⟩
      · exact h'.1 y e he
      · exact hc ⟨he.1.trans h1, he.2.trans h2⟩

theorem OpenOk.count {size fold now start v : Int} {key : K} {l : List (Pn K)} (h : OpenOk size now l) (hn : now < start + size) : OpenOk size now (countP size fold start key v l) :=
  ⟨fun p hp => by
    rcases countP_mem hp with e | ⟨h1, _, h3 | ⟨y, hy, h3, _, h4⟩⟩
    · exact h.stop p e
    · rw [h3, h1]; exact ⟨hn, rfl⟩
    · have := h.stop y hy; rw [h4, h1, ← h3]; exact this, countP_apart h.apart⟩

theorem OpenOk.all {size fold now v : Int} {key : K} : ∀ {ws : List Int} {l : List (Pn K)}, OpenOk size now l → OpenOk size now (countAll size fold now key v ws l)
  | [], _, h => h
  | b :: ws, l, h => by
    show OpenOk size now (countAll size fold now key v ws (if now < b + size then countP size fold b key v l else l))
    split
    · rename_i hb; exact OpenOk.all (h.count hb)
    · exact OpenOk.all h

end

section
variable {K : Type} {lt : K → K → Bool}
structure Inv (lt : K → K → Bool) (size : Int) (f : Fl K) : Prop where
  opn : OpenOk size f.now f.opn
  told : ∀ p ∈ f.told, p.stop ≤ f.now ∧ p.stop = p.start + size
  sorted : Sorted lt f.told
  hi : f.now ≤ maxT
  lo : minT ≤ f.now

/-- What a step does to what is told: it goes on. -/
def Step (f g : Fl K) : Prop := f.now ≤ g.now ∧ ∃ new, g.told = f.told ++ new ∧ ∀ p ∈ new, f.now < p.stop

theorem Step.refl (f : Fl K) : Step f f := ⟨Int.le_refl _, [], by simp, by simp⟩
theorem Step.trans {f g h : Fl K} (a : Step f g) (b : Step g h) : Step f h := by
  obtain ⟨a1, n1, a2, a3⟩ := a
  obtain ⟨b1, n2, b2, b3⟩ := b
  refine ⟨Int.le_trans a1 b1, n1 ++ n2, by rw [b2, a2, List.append_assoc], fun p hp => ?_⟩
  rcases List.mem_append.1 hp with h | h
  · exact a3 p h
  · have := b3 p h; omega

theorem leastOf_le (bound : Int) : ∀ ps : List Pt, leastOf bound ps ≤ maxT
  | [] => Int.le_refl _
  | p :: r => by
    have := leastOf_le bound r
    unfold leastOf
    split <;> omega

theorem markOf_ge {bound now : Int} (ps : List Pt) (h : now ≤ maxT) : now ≤ markOf bound now ps ∧ markOf bound now ps ≤ maxT := by
  have := leastOf_le bound ps
  unfold markOf
  split
  · exact ⟨h, Int.le_refl _⟩
  · split
    · omega
    · exact ⟨Int.le_refl _, h⟩
theorem filter_apart {l : List (Pn K)} (h : Apart l) (q : Pn K → Bool) : Apart (l.filter q) := List.Pairwise.filter q h

theorem tell_inv (ho : SO lt) {size m : Int} {f : Fl K} (h : Inv lt size f) (h1 : f.now ≤ m) (h2 : m ≤ maxT) : Inv lt size (tellF lt m f) ∧ Step f (tellF lt m f) := by
  have hp := sortP_perm ho (filter_apart h.opn.apart fun p => decide (p.stop ≤ m))
  have hnew : ∀ p ∈ sortP lt (f.opn.filter fun p => decide (p.stop ≤ m)), p ∈ f.opn ∧ p.stop ≤ m := fun p hp' => by
    have := (List.mem_filter.1 ((hp.mem_iff).1 hp'))
    exact ⟨this.1, by simpa using this.2⟩
  refine ⟨⟨⟨fun p hp' => ?_, filter_apart h.opn.apart _⟩, fun p hp' => ?_, ?_, h2, ?_⟩, ⟨h1, _, rfl, fun p hp' => (h.opn.stop p (hnew p hp').1).1⟩⟩
  · have := List.mem_filter.1 hp'
    exact ⟨of_decide_eq_true this.2, (h.opn.stop p this.1).2⟩
  · rcases List.mem_append.1 hp' with e | e
    · have := h.told p e
      exact ⟨Int.le_trans this.1 h1, this.2⟩
    · exact ⟨(hnew p e).2, (h.opn.stop p (hnew p e).1).2⟩
  · refine List.pairwise_append.2 ⟨h.sorted, sortP_sorted ho (filter_apart h.opn.apart _), fun a ha b hb => ?_⟩
    have x := (h.told a ha).1
    have y := (h.opn.stop b (hnew b hb).1).1
    unfold lessP
    rw [if_pos (by omega)]
    simp; omega
  · have := h.lo
    show minT ≤ m
    omega

theorem move_inv (ho : SO lt) {size bound : Int} {f : Fl K} (h : Inv lt size f) : Inv lt size (moveF lt bound f) ∧ Step f (moveF lt bound f) :=
  tell_inv ho h (markOf_ge f.parts h.hi).1 (markOf_ge f.parts h.hi).2

theorem take_inv [DecidableEq K] (ho : SO lt) {size fold bound : Int} {ws : Int → List Int} (e : Ev K) {f : Fl K} (h : Inv lt size f) :
    Inv lt size (takeF lt size fold bound ws e f) ∧ Step f (takeF lt size fold bound ws e f) :=
  move_inv ho (f := { f with parts := _, opn := _, after := _ }) ⟨h.opn.all, h.told, h.sorted, h.hi, h.lo⟩

theorem end_inv (ho : SO lt) {size bound : Int} (i : Nat) {f : Fl K} (h : Inv lt size f) : Inv lt size (endF lt bound i f) ∧ Step f (endF lt bound i f) :=
  move_inv ho (f := { f with parts := _ }) ⟨h.opn, h.told, h.sorted, h.hi, h.lo⟩

theorem tick_inv (ho : SO lt) {size bound idle : Int} {f : Fl K} (h : Inv lt size f) : Inv lt size (tickF lt bound idle f) ∧ Step f (tickF lt bound idle f) :=
  move_inv ho (f := { f with parts := _ }) ⟨h.opn, h.told, h.sorted, h.hi, h.lo⟩

/-- What is told, place by place. -/
theorem told_at {size : Int} {f g : Fl K} (h : Inv lt size g) (s : Step f g) :
    f.told.length ≤ g.told.length ∧ ∀ (k : Nat) (p : Pn K), g.told[k]? = some p → p.stop ≤ g.now ∧ p.stop = p.start + size ∧ (k < f.told.length → f.told[k]? = some p) ∧ (f.told.length ≤ k → f.now < p.stop) := by
  obtain ⟨_, new, e, hn⟩ := s
  refine ⟨by rw [e]; simp, fun k p hp => ?_⟩
  have hm := List.mem_of_getElem? hp
  refine ⟨(h.told p hm).1, (h.told p hm).2, fun hk => ?_, fun hk => ?_⟩
  · rw [e, List.getElem?_append_left hk] at hp; exact hp
  · rw [e, List.getElem?_append_right hk] at hp; exact hn p (List.mem_of_getElem? hp)

theorem told_two (ho : SO lt) {size : Int} {g : Fl K} (h : Inv lt size g) {j k : Nat} {p q : Pn K} (hjk : j < k) (hp : g.told[j]? = some p) (hq : g.told[k]? = some q) :
    ¬ sameP p q ∧ p.stop ≤ q.stop := by
  have hs := h.sorted
  have hl := (List.pairwise_iff_getElem.1 hs) j k (List.getElem?_eq_some_iff.1 hp).1 (List.getElem?_eq_some_iff.1 hq).1 hjk
  rw [(List.getElem?_eq_some_iff.1 hp).2, (List.getElem?_eq_some_iff.1 hq).2] at hl
  have e1 := (h.told p (List.mem_of_getElem? hp)).2
  have e2 := (h.told q (List.mem_of_getElem? hq)).2
  unfold lessP at hl
  refine ⟨fun he => ?_, ?_⟩
  · rw [if_neg (by have := he.1; omega), if_neg (by have := he.1; omega), he.2, ho.irr] at hl
    simp at hl
  · split at hl
    · simp at hl; omega
    · omega
end
end Go.Proofs.YtnnoaolceeendaaGreatDoor.M
