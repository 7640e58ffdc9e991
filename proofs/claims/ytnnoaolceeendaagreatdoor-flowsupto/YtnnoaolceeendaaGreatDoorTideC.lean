import Derived.Test.YtnnoaolceeendaaGreatDoorTideB
/-! What is counted hangs on no order. -/
namespace Go.Proofs.YtnnoaolceeendaaGreatDoor.M
section
variable {K : Type} [DecidableEq K]

/-- A value in a window, by a key. -/
structure Tr (K : Type) where
  b : Int
  key : K
  v : Int

def isAt (b : Int) (key : K) (p : Pn K) : Prop := p.start = b ∧ p.key = key

def putT (size fold : Int) (l : List (Pn K)) (t : Tr K) : List (Pn K) := countP size fold t.b t.key t.v l

theorem countP_iff {size fold b v : Int} {key : K} {x : Pn K} : ∀ {l : List (Pn K)}, Apart l → (x ∈ countP size fold b key v l ↔
    (x ∈ l ∧ ¬ isAt b key x) ∨ (∃ y ∈ l, isAt b key y ∧ x = { y with n := foldV fold y.n v }) ∨ ((∀ y ∈ l, ¬ isAt b key y) ∧ x = ⟨b, b + size, key, firstV fold v⟩))
  | [], _ => by simp [countP]
  | p :: r, h => by
    have h' := List.pairwise_cons.1 h
    unfold countP
    split
    · rename_i hc
      have hr : ∀ y ∈ r, ¬ isAt b key y := fun y hy hat => h'.1 y hy ⟨hc.1.trans hat.1.symm, hc.2.trans hat.2.symm⟩
      constructor
      · intro hx
        rcases List.mem_cons.1 hx with e | e
        · exact .inr (.inl ⟨p, by simp, hc, e⟩)
        · exact .inl ⟨by simp [e], hr x e⟩
      · rintro (⟨hx, hn⟩ | ⟨y, hy, hat, e⟩ | ⟨hn, _⟩)
        · rcases List.mem_cons.1 hx with e | e
          · subst e; exact absurd hc hn
          · simp [e]
        · rcases List.mem_cons.1 hy with e' | e'
          · subst e'; simp [e]
          · exact absurd hat (hr y e')
        · exact absurd hc (hn p (by simp))
    · rename_i hc
      rw [List.mem_cons, countP_iff h'.2]
      constructor
      · rintro (e | ⟨hx, hn⟩ | ⟨y, hy, hat, e⟩ | ⟨hn, e⟩)
        · subst e; exact .inl ⟨by simp, hc⟩
        · exact .inl ⟨by simp [hx], hn⟩
        · exact .inr (.inl ⟨y, by simp [hy], hat, e⟩)
        · refine .inr (.inr ⟨fun y hy => ?_, e⟩)
          rcases List.mem_cons.1 hy with e' | e'
          · subst e'; exact hc
          · exact hn y e'
      · rintro (⟨hx, hn⟩ | ⟨y, hy, hat, e⟩ | ⟨hn, e⟩)
        · rcases List.mem_cons.1 hx with e | e
          · exact .inl e
          · exact .inr (.inl ⟨e, hn⟩)
        · rcases List.mem_cons.1 hy with e' | e'
          · subst e'; exact absurd hat hc
          · exact .inr (.inr (.inl ⟨y, e', hat, e⟩))
        · exact .inr (.inr (.inr ⟨fun y hy => hn y (by simp [hy]), e⟩))
end

section
variable {K : Type}
/-- Two lists hold the same panes, each window and key once. -/
structure Eqv (l m : List (Pn K)) : Prop where
  left : Apart l
  right : Apart m
  mem : ∀ x, x ∈ l ↔ x ∈ m

theorem Eqv.refl {l : List (Pn K)} (h : Apart l) : Eqv l l := ⟨h, h, fun _ => Iff.rfl⟩
theorem Eqv.symm {l m : List (Pn K)} (h : Eqv l m) : Eqv m l := ⟨h.right, h.left, fun x => (h.mem x).symm⟩
theorem Eqv.trans {l m k : List (Pn K)} (h : Eqv l m) (g : Eqv m k) : Eqv l k := ⟨h.left, g.right, fun x => (h.mem x).trans (g.mem x)⟩

theorem apart_one {l : List (Pn K)} (h : Apart l) {x y : Pn K} (hx : x ∈ l) (hy : y ∈ l) (hs : sameP x y) : x = y := by
  induction l with
  | nil => simp at hx
  | cons z r ih =>
    have h' := List.pairwise_cons.1 h
    rcases List.mem_cons.1 hx with rfl | hx'
    · rcases List.mem_cons.1 hy with rfl | hy'
      · rfl
      · exact absurd hs (h'.1 y hy')
    · rcases List.mem_cons.1 hy with rfl | hy'
      · exact absurd ⟨hs.1.symm, hs.2.symm⟩ (h'.1 x hx')
      · exact ih h'.2 hx' hy'
end

section
variable {K : Type} [DecidableEq K]
theorem Eqv.put {size fold : Int} {l m : List (Pn K)} (h : Eqv l m) (t : Tr K) : Eqv (putT size fold l t) (putT size fold m t) :=
  ⟨countP_apart h.left, countP_apart h.right, fun x => by
    unfold putT
    rw [countP_iff h.left, countP_iff h.right]
    constructor
    · rintro (⟨a, b⟩ | ⟨y, hy, a⟩ | ⟨a, b⟩)
      · exact .inl ⟨(h.mem x).1 a, b⟩
      · exact .inr (.inl ⟨y, (h.mem y).1 hy, a⟩)
      · exact .inr (.inr ⟨fun y hy => a y ((h.mem y).2 hy), b⟩)
    · rintro (⟨a, b⟩ | ⟨y, hy, a⟩ | ⟨a, b⟩)
      · exact .inl ⟨(h.mem x).2 a, b⟩
      · exact .inr (.inl ⟨y, (h.mem y).2 hy, a⟩)
      · exact .inr (.inr ⟨fun y hy => a y ((h.mem y).1 hy), b⟩)⟩

theorem w64_add (a b : Int) : w64 (w64 a + b) = w64 (a + b) := by unfold w64; omega

theorem foldV_swap (kind n a b : Int) : foldV kind (foldV kind n a) b = foldV kind (foldV kind n b) a := by
  unfold foldV
  split
  · rfl
  · split
    · rw [w64_add, w64_add, show n + a + b = n + b + a by omega]
    · split
      · split <;> split <;> (try split) <;> (try split) <;> omega
      · split <;> split <;> (try split) <;> (try split) <;> omega

theorem foldV_first (kind a b : Int) : foldV kind (firstV kind a) b = foldV kind (firstV kind b) a := by
  unfold foldV firstV
  split
  · rfl
  · split
    · rw [show a + b = b + a by omega]
    · split
      · split <;> split <;> omega
      · split <;> split <;> omega

/-- One way of the exchange: what is put in one order lies there in the other. -/
theorem put_swap_mem {size fold : Int} {l : List (Pn K)} (h : Apart l) (s t : Tr K) {x : Pn K} (hx : x ∈ putT size fold (putT size fold l s) t) : x ∈ putT size fold (putT size fold l t) s := by
  unfold putT at *
  have hs := countP_apart (size := size) (fold := fold) (start := s.b) (v := s.v) (key := s.key) h
  have ht := countP_apart (size := size) (fold := fold) (start := t.b) (v := t.v) (key := t.key) h
  rw [countP_iff hs] at hx
  rw [countP_iff ht]
  by_cases hst : s.b = t.b ∧ s.key = t.key
  · obtain ⟨eb, ek⟩ := hst
    rcases hx with ⟨h1, h2⟩ | ⟨y, hy, hat, e⟩ | ⟨hn, e⟩
    · rw [countP_iff h] at h1
      rcases h1 with ⟨h3, h4⟩ | ⟨y, hy, hat, e⟩ | ⟨hn, e⟩
      · exact .inl ⟨(countP_iff h).2 (.inl ⟨h3, h2⟩), h4⟩
      · subst e; exact absurd ⟨hat.1.trans eb, hat.2.trans ek⟩ h2
      · subst e; exact absurd ⟨eb, ek⟩ h2
    · rw [countP_iff h] at hy
      rcases hy with ⟨h3, h4⟩ | ⟨z, hz, hzt, e'⟩ | ⟨hn, e'⟩
      · exact absurd ⟨hat.1.trans eb.symm, hat.2.trans ek.symm⟩ h4
      · subst e'
        refine .inr (.inl ⟨{ z with n := foldV fold z.n t.v }, (countP_iff h).2 (.inr (.inl ⟨z, hz, hat, rfl⟩)), hzt, ?_⟩)
        rw [e]
        simp only [foldV_swap]
      · subst e'
        refine .inr (.inl ⟨⟨t.b, t.b + size, t.key, firstV fold t.v⟩, (countP_iff h).2 (.inr (.inr ⟨fun y hy hyt => hn y hy ⟨hyt.1.trans eb.symm, hyt.2.trans ek.symm⟩, rfl⟩)), ⟨eb.symm, ek.symm⟩, ?_⟩)
        rw [e, foldV_first, eb, ek]
    · exfalso
      -- something lies there behind the first one
      by_cases hex : ∃ y ∈ l, isAt s.b s.key y
      · obtain ⟨y, hy, hys⟩ := hex
        exact hn _ ((countP_iff h).2 (.inr (.inl ⟨y, hy, hys, rfl⟩))) ⟨hys.1.trans eb, hys.2.trans ek⟩
      · exact hn _ ((countP_iff h).2 (.inr (.inr ⟨fun y hy hyt => hex ⟨y, hy, hyt⟩, rfl⟩))) ⟨eb, ek⟩
  · rcases hx with ⟨h1, h2⟩ | ⟨y, hy, hat, e⟩ | ⟨hn, e⟩
    · rw [countP_iff h] at h1
      rcases h1 with ⟨h3, h4⟩ | ⟨y, hy, hat, e⟩ | ⟨hn, e⟩
      · exact .inl ⟨(countP_iff h).2 (.inl ⟨h3, h2⟩), h4⟩
      · refine .inr (.inl ⟨y, (countP_iff h).2 (.inl ⟨hy, fun hyt => hst ⟨hat.1.symm.trans hyt.1, hat.2.symm.trans hyt.2⟩⟩), hat, e⟩)
      · refine .inr (.inr ⟨fun y hy hys => ?_, e⟩)
        rw [countP_iff h] at hy
        rcases hy with ⟨h3, _⟩ | ⟨z, hz, hzt, e'⟩ | ⟨_, e'⟩
        · exact hn y h3 hys
        · subst e'; exact hn z hz hys
        · subst e'; exact hst ⟨hys.1.symm, hys.2.symm⟩
    · rw [countP_iff h] at hy
      rcases hy with ⟨h3, h4⟩ | ⟨z, hz, hzt, e'⟩ | ⟨hn, e'⟩
      · refine .inl ⟨(countP_iff h).2 (.inr (.inl ⟨y, h3, hat, e⟩)), ?_⟩
        subst e; exact h4
      · subst e'; exact absurd ⟨hzt.1.symm.trans hat.1, hzt.2.symm.trans hat.2⟩ hst
      · subst e'; exact absurd ⟨hat.1, hat.2⟩ hst
    · refine .inl ⟨(countP_iff h).2 (.inr (.inr ⟨fun y hy hyt => ?_, e⟩)), ?_⟩
      · exact hn y ((countP_iff h).2 (.inl ⟨hy, fun hys => hst ⟨hys.1.symm.trans hyt.1, hys.2.symm.trans hyt.2⟩⟩)) hyt
      · subst e; exact fun hys => hst ⟨hys.1.symm, hys.2.symm⟩

theorem Eqv.swap {size fold : Int} {l : List (Pn K)} (h : Apart l) (s t : Tr K) : Eqv (putT size fold (putT size fold l s) t) (putT size fold (putT size fold l t) s) :=
  ⟨countP_apart (countP_apart h), countP_apart (countP_apart h), fun _ => ⟨put_swap_mem h s t, put_swap_mem h t s⟩⟩

theorem Eqv.foldl {size fold : Int} : ∀ (ts : List (Tr K)) {l m : List (Pn K)}, Eqv l m → Eqv (ts.foldl (putT size fold) l) (ts.foldl (putT size fold) m)
  | [], _, _, h => h
  | t :: ts, _, _, h => Eqv.foldl ts (h.put t)

theorem foldl_apart {size fold : Int} (ts : List (Tr K)) {l : List (Pn K)} (h : Apart l) : Apart (ts.foldl (putT size fold) l) := (Eqv.foldl ts (Eqv.refl h)).left

/-- What is counted hangs on no order. -/
theorem Eqv.perm {size fold : Int} {ts us : List (Tr K)} (hp : ts.Perm us) : ∀ {l : List (Pn K)}, Apart l → Eqv (ts.foldl (putT size fold) l) (us.foldl (putT size fold) l) := by
  induction hp with
  | nil => intro l h; exact Eqv.refl h
  | cons t _ ih => intro l h; exact ih (countP_apart h)
  | swap s t ts => intro l h; exact Eqv.foldl ts (Eqv.swap h t s)
  | trans _ _ ih1 ih2 => intro l h; exact (ih1 h).trans (ih2 h)

end
end Go.Proofs.YtnnoaolceeendaaGreatDoor.M
