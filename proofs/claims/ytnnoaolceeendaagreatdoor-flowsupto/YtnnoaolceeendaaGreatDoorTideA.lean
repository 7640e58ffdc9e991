/-! The document's flow as plain mathematics: nothing of a program. K: the keys; lt: their order. -/
namespace Go.Proofs.YtnnoaolceeendaaGreatDoor.M

def minT : Int := -9223372036854775808
def maxT : Int := 9223372036854775807
def w64 (n : Int) : Int := (n + 9223372036854775808) % 18446744073709551616 - 9223372036854775808

structure Ev (K : Type) where
  part : Int
  key : K
  at_ : Int
  val : Int

structure Pn (K : Type) where
  start : Int
  stop : Int
  key : K
  n : Int

structure Pt where
  any : Bool
  most : Int
  ended : Bool
  idle : Bool
  silent : Int

structure Fl (K : Type) where
  parts : List Pt
  now : Int
  opn : List (Pn K)
  told : List (Pn K)
  after : List (Ev K)

/-- An order of keys: strict and whole. -/
structure SO {K : Type} (lt : K → K → Bool) : Prop where
  irr : ∀ a, lt a a = false
  tr : ∀ a b c, lt a b = true → lt b c = true → lt a c = true
  tot : ∀ a b, a ≠ b → lt a b = true ∨ lt b a = true

def foldV (kind n v : Int) : Int := if kind = 0 then w64 (n + 1) else if kind = 1 then w64 (n + v) else if kind = 2 then (if v < n then v else n) else (if n < v then v else n)
def firstV (kind v : Int) : Int := if kind = 0 then 1 else v

section
variable {K : Type}

def countP [DecidableEq K] (size fold start : Int) (key : K) (v : Int) : List (Pn K) → List (Pn K)
  | [] => [⟨start, start + size, key, firstV fold v⟩]
  | p :: r => if p.start = start ∧ p.key = key then { p with n := foldV fold p.n v } :: r else p :: countP size fold start key v r

def lessP (lt : K → K → Bool) (a b : Pn K) : Bool :=
  if a.stop ≠ b.stop then decide (a.stop < b.stop) else if a.start ≠ b.start then decide (a.start < b.start) else lt a.key b.key

def insP (lt : K → K → Bool) (p : Pn K) : List (Pn K) → List (Pn K)
  | [] => [p]
  | x :: r => if lessP lt p x = true then p :: x :: r else x :: insP lt p r

/-- Panes, put in order. -/
def sortP (lt : K → K → Bool) (l : List (Pn K)) : List (Pn K) := l.foldl (fun acc p => insP lt p acc) []

def allows (bound : Int) (p : Pt) : Int := if p.any = false ∨ p.most < minT + bound then minT else p.most - bound

/-- The least of what those parts allow that count. -/
def leastOf (bound : Int) : List Pt → Int
  | [] => maxT
  | p :: r => if p.ended = false ∧ p.idle = false ∧ allows bound p < leastOf bound r then allows bound p else leastOf bound r

def anyOf (ps : List Pt) : Bool := ps.any fun p => !p.ended && !p.idle
def allOf (ps : List Pt) : Bool := ps.all fun p => p.ended

def markOf (bound now : Int) (ps : List Pt) : Int :=
  if allOf ps = true then maxT else if anyOf ps = true ∧ now < leastOf bound ps then leastOf bound ps else now

def tellF (lt : K → K → Bool) (m : Int) (f : Fl K) : Fl K :=
  { f with now := m, opn := f.opn.filter (fun p => decide (m < p.stop)), told := f.told ++ sortP lt (f.opn.filter (fun p => decide (p.stop ≤ m))) }

def moveF (lt : K → K → Bool) (bound : Int) (f : Fl K) : Fl K := tellF lt (markOf bound f.now f.parts) f

/-- An event counted in its windows that are not over: 'ws': the begins. -/
def countAll [DecidableEq K] (size fold : Int) (now : Int) (key : K) (v : Int) (ws : List Int) (l : List (Pn K)) : List (Pn K) :=
  ws.foldl (fun l b => if now < b + size then countP size fold b key v l else l) l

def isLate (size now : Int) (ws : List Int) : Bool := ws.all fun b => decide (b + size ≤ now)

def takeP (t : Int) (p : Pt) : Pt := { p with idle := false, silent := 0, any := true, most := if p.any = false ∨ p.most < t then t else p.most }

def takeF [DecidableEq K] (lt : K → K → Bool) (size fold bound : Int) (ws : Int → List Int) (e : Ev K) (f : Fl K) : Fl K :=
  moveF lt bound { f with
    parts := f.parts.modify e.part.toNat (takeP e.at_)
    opn := countAll size fold f.now e.key e.val (ws e.at_) f.opn
    after := if isLate size f.now (ws e.at_) = true then f.after ++ [e] else f.after }

def endF (lt : K → K → Bool) (bound : Int) (i : Nat) (f : Fl K) : Fl K :=
  moveF lt bound { f with parts := f.parts.modify i (fun p => { p with ended := true }) }

def tickP (idle : Int) (p : Pt) : Pt :=
  if p.ended = true then p else { p with silent := p.silent + 1, idle := p.idle || (decide (0 < idle) && decide (idle ≤ p.silent + 1)) }

def tickF (lt : K → K → Bool) (bound idle : Int) (f : Fl K) : Fl K := moveF lt bound { f with parts := f.parts.map (tickP idle) }

end

/-! ### Panes in order -/
section
variable {K : Type} {lt : K → K → Bool}

/-- Two panes of one window and key. -/
def sameP (a b : Pn K) : Prop := a.start = b.start ∧ a.key = b.key

theorem lessP_irr (h : SO lt) (a : Pn K) : lessP lt a a = false := by simp [lessP, h.irr]

theorem lessP_tr (h : SO lt) {a b c : Pn K} (h1 : lessP lt a b = true) (h2 : lessP lt b c = true) : lessP lt a c = true := by
  unfold lessP at *
  by_cases e1 : a.stop = b.stop
  · by_cases e2 : b.stop = c.stop
    · simp only [e1, e2, ne_eq, not_true_eq_false, if_false] at *
      by_cases e3 : a.start = b.start
      · by_cases e4 : b.start = c.start
        · simp only [e3, e4, not_true_eq_false, if_false] at *
          exact h.tr _ _ _ h1 h2
        · simp only [e3, e4, not_true_eq_false, if_false, not_false_eq_true, if_true] at *
          exact h2
      · by_cases e4 : b.start = c.start
        · simp only [e3, ← e4, not_false_eq_true, if_true] at *
          exact h1
        · simp only [e3, e4, not_false_eq_true, if_true, decide_eq_true_eq] at *
          rw [if_pos (by omega)]
          simp; omega
    · simp only [e1, e2, ne_eq, not_true_eq_false, if_false, not_false_eq_true, if_true] at *
      exact h2
  · by_cases e2 : b.stop = c.stop
    · simp only [e1, ← e2, ne_eq, not_false_eq_true, if_true] at *
      exact h1
    · simp only [e1, e2, ne_eq, not_false_eq_true, if_true, decide_eq_true_eq] at *
      rw [if_pos (by omega)]
      simp; omega

theorem lessP_tot (h : SO lt) {a b : Pn K} (hn : ¬ sameP a b) : lessP lt a b = true ∨ lessP lt b a = true := by
  unfold lessP
  by_cases e1 : a.stop = b.stop
  · by_cases e2 : a.start = b.start
    · have hk : a.key ≠ b.key := fun e => hn ⟨e2, e⟩
      simp only [e1, e2, ne_eq, not_true_eq_false, if_false]
      exact h.tot _ _ hk
    · simp [e1, e2, Ne.symm e2]; omega
  · simp [e1, Ne.symm e1]; omega

theorem lessP_not (h : SO lt) {a b : Pn K} (h1 : lessP lt a b = true) : lessP lt b a = false := by
  cases e : lessP lt b a
  · rfl
  · have := lessP_tr h h1 e
    rw [lessP_irr h] at this
    simp at this

def Sorted (lt : K → K → Bool) (l : List (Pn K)) : Prop := l.Pairwise fun a b => lessP lt a b = true
def Apart (l : List (Pn K)) : Prop := l.Pairwise fun a b => ¬ sameP a b

theorem insP_mem {p x : Pn K} {l : List (Pn K)} : x ∈ insP lt p l ↔ x = p ∨ x ∈ l := by
  induction l with
  | nil => simp [insP]
  | cons y r ih =>
    unfold insP
    split
    · simp
    · simp only [List.mem_cons, ih]
      constructor
      · rintro (h | h | h) <;> simp [h]
      · rintro (h | h | h) <;> simp [h]

theorem insP_sorted (h : SO lt) {p : Pn K} {l : List (Pn K)} (hs : Sorted lt l) (ha : ∀ x ∈ l, ¬ sameP x p) : Sorted lt (insP lt p l) := by
  induction l with
  | nil => simp [insP, Sorted]
  | cons y r ih =>
    unfold insP
    have hs' := List.pairwise_cons.1 hs
    split
    · rename_i hlt
      refine List.pairwise_cons.2 ⟨fun z hz => ?_, hs⟩
      rcases List.mem_cons.1 hz with rfl | hz
      · exact hlt
      · exact lessP_tr h hlt (hs'.1 z hz)
    · rename_i hlt
      refine List.pairwise_cons.2 ⟨fun z hz => ?_, ih hs'.2 (fun x hx => ha x (by simp [hx]))⟩
      rcases insP_mem.1 hz with rfl | hz
      · rcases lessP_tot h (ha y (by simp)) with h1 | h1
        · exact h1
        · exact absurd h1 hlt
      · exact hs'.1 z hz

theorem insP_perm {p : Pn K} {l : List (Pn K)} : (insP lt p l).Perm (p :: l) := by
  induction l with
  | nil => exact List.Perm.refl _
  | cons y r ih =>
    unfold insP
    split
    · exact List.Perm.refl _
    · exact (List.Perm.cons y ih).trans (List.Perm.swap p y r)

theorem sort_fold (h : SO lt) : ∀ (l acc : List (Pn K)), Sorted lt acc → Apart l → (∀ x ∈ acc, ∀ y ∈ l, ¬ sameP x y) →
    Sorted lt (l.foldl (fun acc p => insP lt p acc) acc) ∧ (l.foldl (fun acc p => insP lt p acc) acc).Perm (l ++ acc)
  | [], acc, hs, _, _ => ⟨hs, List.Perm.refl _⟩
  | p :: l, acc, hs, ha, hx => by
    have ha' := List.pairwise_cons.1 ha
    have := sort_fold h l (insP lt p acc) (insP_sorted h hs (fun x hx' => hx x hx' p (by simp))) ha'.2 (fun x hx' y hy => by
      rcases insP_mem.1 hx' with rfl | h'
      · exact ha'.1 y hy
      · exact hx x h' y (by simp [hy]))
    refine ⟨this.1, this.2.trans ?_⟩
    exact (List.Perm.append_left l insP_perm).trans List.perm_middle

theorem sortP_sorted (h : SO lt) {l : List (Pn K)} (ha : Apart l) : Sorted lt (sortP lt l) := (sort_fold h l [] List.Pairwise.nil ha (by simp)).1
theorem sortP_perm (h : SO lt) {l : List (Pn K)} (ha : Apart l) : (sortP lt l).Perm l := by
  have := (sort_fold h l [] List.Pairwise.nil ha (by simp)).2
  rw [List.append_nil] at this
  exact this

/-- What is in order and holds the same is the same. -/
theorem sorted_eq (h : SO lt) {a b : List (Pn K)} (ha : Sorted lt a) (hb : Sorted lt b) (hm : ∀ x, x ∈ a ↔ x ∈ b) : a = b := by
  induction a generalizing b with
  | nil =>
    cases b with
    | nil => rfl
    | cons y r => exact absurd ((hm y).2 (by simp)) (by simp)
  | cons x a ih =>
    cases b with
    | nil => exact absurd ((hm x).1 (by simp)) (by simp)
    | cons y b =>
      have ha' := List.pairwise_cons.1 ha
      have hb' := List.pairwise_cons.1 hb
      have e : x = y := by
        rcases List.mem_cons.1 ((hm x).1 (by simp)) with e | e
        · exact e
        · rcases List.mem_cons.1 ((hm y).2 (by simp)) with e' | e'
          · exact e'.symm
          · have := lessP_not h (hb'.1 x e)
            rw [ha'.1 y e'] at this
            simp at this
      subst e
      rw [ih ha'.2 hb'.2 (fun z => ?_)]
      constructor
      · intro hz
        rcases List.mem_cons.1 ((hm z).1 (by simp [hz])) with e | e
        · subst e
          have := ha'.1 z hz
          rw [lessP_irr h] at this
          simp at this
        · exact e
      · intro hz
        rcases List.mem_cons.1 ((hm z).2 (by simp [hz])) with e | e
        · subst e
          have := hb'.1 z hz
          rw [lessP_irr h] at this
          simp at this
        · exact e

theorem sorted_apart (h : SO lt) {l : List (Pn K)} (hsz : ∀ x ∈ l, ∀ y ∈ l, x.start = y.start → x.stop = y.stop) (hs : Sorted lt l) : Apart l := by
  induction l with
  | nil => exact List.Pairwise.nil
  | cons x r ih =>
    have hs' := List.pairwise_cons.1 hs
    refine List.pairwise_cons.2 ⟨fun y hy he => ?_, ih (fun a ha b hb => hsz a (by simp [ha]) b (by simp [hb])) hs'.2⟩
    have hl := hs'.1 y hy
    have e := hsz x (by simp) y (by simp [hy]) he.1
    unfold lessP at hl
    rw [if_neg (by simp [e]), if_neg (by simp [he.1]), he.2, h.irr] at hl
    simp at hl
end
end Go.Proofs.YtnnoaolceeendaaGreatDoor.M
