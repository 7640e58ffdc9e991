/-! Plain mathematics of a wheel of levels: numbers by their digits to the base 16: nothing of the program. -/
namespace Go.Proofs.YtnnoaolceeendaaGreatDoor.Wh

/-- The level of the highest digit in which two numbers differ. -/
def LevIs (l a b : Nat) : Prop := a / 16 ^ (l + 1) = b / 16 ^ (l + 1) ∧ a / 16 ^ l ≠ b / 16 ^ l
def dig (l a : Nat) : Nat := a / 16 ^ l % 16

theorem div_up (a l : Nat) : a / 16 ^ (l + 1) = a / 16 ^ l / 16 := by rw [Nat.pow_succ, Nat.div_div_eq_div_mul]

/-- Numbers that agree above l agree above every greater level. -/
theorem agree_up {a b l k : Nat} (h : a / 16 ^ l = b / 16 ^ l) (hk : l ≤ k) : a / 16 ^ k = b / 16 ^ k := by
  obtain ⟨d, rfl⟩ := Nat.exists_eq_add_of_le hk
  rw [Nat.pow_add, ← Nat.div_div_eq_div_mul, ← Nat.div_div_eq_div_mul, h]

theorem div_lt_of {a b l : Nat} (h : a / 16 ^ l < b / 16 ^ l) : a < b := by
  rcases Nat.lt_or_ge a b with h' | h'
  · exact h'
  · have := Nat.div_le_div_right (c := 16 ^ l) h'
    omega

theorem LevIs.symm {l a b : Nat} (h : LevIs l a b) : LevIs l b a := ⟨h.1.symm, fun e => h.2 e.symm⟩

theorem LevIs.uniq {l k a b : Nat} (h : LevIs l a b) (h' : LevIs k a b) : l = k := by
  rcases Nat.lt_trichotomy l k with hlt | heq | hgt
  · exact absurd (agree_up h.1 hlt) h'.2
  · exact heq
  · exact absurd (agree_up h'.1 hgt) h.2

/-- The digit there is greater in the greater number. -/
theorem LevIs.lt {l a b : Nat} (h : LevIs l a b) (hab : a < b) : a / 16 ^ l < b / 16 ^ l ∧ dig l a < dig l b := by
  have h1 := Nat.div_le_div_right (c := 16 ^ l) (Nat.le_of_lt hab)
  have h2 := h.2
  have h3 := h.1
  rw [div_up, div_up] at h3
  unfold dig
  generalize a / 16 ^ l = A at *
  generalize b / 16 ^ l = B at *
  omega

/-- Of numbers that agree above l the digit tells which is greater. -/
theorem dig_cmp {l a b : Nat} (h : a / 16 ^ (l + 1) = b / 16 ^ (l + 1)) : (dig l a < dig l b ↔ a / 16 ^ l < b / 16 ^ l) ∧ (dig l a = dig l b ↔ a / 16 ^ l = b / 16 ^ l) := by
  rw [div_up, div_up] at h
  unfold dig
  generalize a / 16 ^ l = A at *
  generalize b / 16 ^ l = B at *
  omega

/-- There is a level. -/
theorem lev_ex {a b : Nat} (hne : a ≠ b) : ∀ n, a / 16 ^ n = b / 16 ^ n → ∃ l, l < n ∧ LevIs l a b
  | 0, h => by simp at h; exact absurd h hne
  | n + 1, h => by
    by_cases h' : a / 16 ^ n = b / 16 ^ n
    · obtain ⟨l, h1, h2⟩ := lev_ex hne n h'
      exact ⟨l, by omega, h2⟩
    · exact ⟨n, by omega, h, h'⟩

section
variable {m t e e' l k top : Nat}

/-- What stands below the top digit that changes has been passed. -/
theorem below_passed (ht : LevIs top m t) (hmt : m < t) (he : LevIs l m e) (hl : l < top) : e < t := by
  have h1 := agree_up he.1 (show l + 1 ≤ top by omega)
  exact div_lt_of (l := top) (by rw [← h1]; exact (ht.lt hmt).1)

/-- What stands above it stays where it stands. -/
theorem above_stays (ht : LevIs top m t) (he : LevIs l m e) (hme : m < e) (hl : top < l) : t < e ∧ LevIs l t e := by
  have h1 := agree_up ht.1 (show top + 1 ≤ l by omega)
  have h2 := agree_up ht.1 (show top + 1 ≤ l + 1 by omega)
  refine ⟨div_lt_of (l := l) (by rw [← h1]; exact (he.lt hme).1), by rw [← h2]; exact he.1, by rw [← h1]; exact he.2⟩

/-- On its own level: a slot ahead of the new digit's has been passed; one behind it stays; in that of the new digit both may be. -/
theorem same_ahead (ht : LevIs top m t) (he : LevIs top m e) (hd : dig top e < dig top t) : e < t :=
  div_lt_of (l := top) (((dig_cmp (he.1.symm.trans ht.1)).1).1 hd)
theorem same_behind (ht : LevIs top m t) (he : LevIs top m e) (hd : dig top t < dig top e) : t < e ∧ LevIs top t e := by
  have h1 := ((dig_cmp (ht.1.symm.trans he.1)).1).1 hd
  exact ⟨div_lt_of h1, ht.1.symm.trans he.1, by omega⟩
theorem same_in (ht : LevIs top m t) (he : LevIs top m e) (hd : dig top e = dig top t) (hte : t < e) : ∃ k, k < top ∧ LevIs k t e :=
  lev_ex (by omega) top (((dig_cmp (ht.1.symm.trans he.1)).2).1 hd.symm)

/-- The slot of the old digit is empty. -/
theorem behind_old (he : LevIs top m e) (hme : m < e) : dig top m < dig top e := (he.lt hme).2

/-- The order: by levels, then by slots. -/
theorem level_order (he : LevIs l m e) (he' : LevIs k m e') (hme' : m < e') (hlk : l < k) : e < e' := by
  have h1 := agree_up he.1 (show l + 1 ≤ k by omega)
  exact div_lt_of (l := k) (by rw [← h1]; exact (he'.lt hme').1)
theorem slot_order (he : LevIs l m e) (he' : LevIs l m e') (hd : dig l e < dig l e') : e < e' :=
  div_lt_of (l := l) (((dig_cmp (he.1.symm.trans he'.1)).1).1 hd)
end

/-! ### The wheel -/
/-- Slots by level and digit; m: the mark; E: what waits. -/
structure Wheel (n : Nat) (m : Nat) (E : Nat → Prop) (S : Nat → Nat → List Nat) : Prop where
  later : ∀ e, E e → m < e
  high : ∀ e, E e → m / 16 ^ n = e / 16 ^ n
  mem : ∀ l d e, l < n → d < 16 → (e ∈ S l d ↔ E e ∧ LevIs l m e ∧ dig l e = d)
  nodup : ∀ l d, l < n → d < 16 → (S l d).Nodup

theorem dig_lt (l a : Nat) : dig l a < 16 := Nat.mod_lt _ (by decide)

/-- Where what waits stands. -/
theorem Wheel.at {n m : Nat} {E : Nat → Prop} {S : Nat → Nat → List Nat} (h : Wheel n m E S) {e : Nat} (he : E e) : ∃ l, l < n ∧ LevIs l m e ∧ e ∈ S l (dig l e) := by
  obtain ⟨l, h1, h2⟩ := lev_ex (by have := h.later e he; omega) n (h.high e he)
  exact ⟨l, h1, h2, (h.mem l _ e h1 (dig_lt l e)).2 ⟨he, h2, rfl⟩⟩

def putAt (S : Nat → Nat → List Nat) (l d e : Nat) : Nat → Nat → List Nat := fun l' d' => if l' = l ∧ d' = d then S l d ++ [e] else S l' d'

/-- One more that waits. -/
theorem Wheel.place {n m : Nat} {E : Nat → Prop} {S : Nat → Nat → List Nat} (h : Wheel n m E S) {e l : Nat} (hne : ¬ E e) (hme : m < e) (hh : m / 16 ^ n = e / 16 ^ n) (hl : LevIs l m e) (hln : l < n) : Wheel n m (fun x => E x ∨ x = e) (putAt S l (dig l e) e) := by
  refine ⟨fun x hx => hx.elim (h.later x) (fun h' => by omega), fun x hx => hx.elim (h.high x) (fun h' => by rw [h']; exact hh), fun l' d' x hl' hd' => ?_, fun l' d' hl' hd' => ?_⟩
  · unfold putAt
    split
    · rename_i hc
      obtain ⟨rfl, rfl⟩ := hc
      rw [List.mem_append, List.mem_singleton, h.mem l' _ x hl' hd']
      constructor
      · rintro (⟨h1, h2, h3⟩ | rfl)
        · exact ⟨.inl h1, h2, h3⟩
        · exact ⟨.inr rfl, hl, rfl⟩
      · rintro ⟨h1 | rfl, h2, h3⟩
        · exact .inl ⟨h1, h2, h3⟩
        · exact .inr rfl
    · rename_i hc
      rw [h.mem l' d' x hl' hd']
      constructor
      · rintro ⟨h1, h2, h3⟩
        exact ⟨.inl h1, h2, h3⟩
      · rintro ⟨h1 | rfl, h2, h3⟩
        · exact ⟨h1, h2, h3⟩
        · have := h2.uniq hl
          subst this
          exact absurd ⟨rfl, h3.symm⟩ hc
  · unfold putAt
    split
    · rename_i hc
      obtain ⟨rfl, rfl⟩ := hc
      refine List.nodup_append.2 ⟨h.nodup l' _ hl' hd', by simp, fun a ha b hb => ?_⟩
      simp only [List.mem_singleton] at hb
      subst hb
      intro hab
      subst hab
      exact hne ((h.mem l' _ a hl' hd').1 ha).1
    · exact h.nodup l' d' hl' hd'

/-- A rising list is told by what is in it. -/
theorem rising_eq : ∀ {a b : List Nat}, a.Pairwise (· < ·) → b.Pairwise (· < ·) → (∀ x, x ∈ a ↔ x ∈ b) → a = b
  | [], [], _, _, _ => rfl
  | [], y :: b, _, _, h => by have := (h y).2 (by simp); simp at this
  | x :: a, [], _, _, h => by have := (h x).1 (by simp); simp at this
  | x :: a, y :: b, ha, hb, h => by
    have ha' := List.pairwise_cons.1 ha
    have hb' := List.pairwise_cons.1 hb
    have hxy : x = y := by
      have h1 := (h x).1 (by simp)
      have h2 := (h y).2 (by simp)
      rcases List.mem_cons.1 h1 with h1 | h1
      · exact h1
      · rcases List.mem_cons.1 h2 with h2 | h2
        · exact h2.symm
        · have := ha'.1 y h2; have := hb'.1 x h1; omega
    subst hxy
    rw [rising_eq ha'.2 hb'.2 (fun z => by
      have := h z
      constructor
      · intro hz
        rcases List.mem_cons.1 (this.1 (by simp [hz])) with h1 | h1
        · subst h1; have := ha'.1 z hz; omega
        · exact h1
      · intro hz
        rcases List.mem_cons.1 (this.2 (by simp [hz])) with h1 | h1
        · subst h1; have := hb'.1 z hz; omega
        · exact h1)]
end Go.Proofs.YtnnoaolceeendaaGreatDoor.Wh
