import Derived.Test.YtnnoaolceeendaaGreatDoorWhA
namespace Go.Proofs.YtnnoaolceeendaaGreatDoor.Wh

def sortN (l : List Nat) : List Nat := l.mergeSort (fun a b => decide (a ≤ b))

theorem sortN_mem {l : List Nat} {x : Nat} : x ∈ sortN l ↔ x ∈ l := (List.mergeSort_perm l _).mem_iff
theorem sortN_rise {l : List Nat} (h : l.Nodup) : (sortN l).Pairwise (· < ·) := by
  have h1 : (sortN l).Pairwise (fun a b => decide (a ≤ b) = true) := List.pairwise_mergeSort (le := fun a b => decide (a ≤ b)) (fun a b c h1 h2 => by simp at *; omega) (fun a b => by simp; omega) l
  have h2 : (sortN l).Nodup := (List.mergeSort_perm l _).nodup_iff.2 h
  refine (h1.and h2).imp fun {a b} hab => ?_
  have h3 : a ≤ b := by simpa using hab.1
  have h4 := hab.2
  omega

/-- What is told of the levels below, and of the slots a to b of the level itself. -/
def lowTold (S : Nat → Nat → List Nat) (top : Nat) : List Nat := (List.range top).flatMap fun l => (List.range 16).flatMap fun d => sortN (S l d)
def topTold (S : Nat → Nat → List Nat) (top t a k : Nat) : List Nat := ((List.range' a k).flatMap fun d => sortN (S top d)).filter fun x => decide (x ≤ t)

section
variable {n m t top : Nat} {E : Nat → Prop} {S : Nat → Nat → List Nat}

theorem mem_low (h : Wheel n m E S) (htn : top ≤ n) {x : Nat} : x ∈ lowTold S top ↔ E x ∧ ∃ l, l < top ∧ LevIs l m x := by
  unfold lowTold
  constructor
  · intro hx
    obtain ⟨l, hl, hx⟩ := List.mem_flatMap.1 hx
    obtain ⟨d, hd, hx⟩ := List.mem_flatMap.1 hx
    have hl' := List.mem_range.1 hl
    have := (h.mem l d x (by omega) (List.mem_range.1 hd)).1 (sortN_mem.1 hx)
    exact ⟨this.1, l, hl', this.2.1⟩
  · rintro ⟨he, l, hl, hlev⟩
    refine List.mem_flatMap.2 ⟨l, List.mem_range.2 hl, List.mem_flatMap.2 ⟨dig l x, List.mem_range.2 (dig_lt l x), sortN_mem.2 ((h.mem l _ x (by omega) (dig_lt l x)).2 ⟨he, hlev, rfl⟩)⟩⟩

theorem low_rise (h : Wheel n m E S) (htn : top ≤ n) : (lowTold S top).Pairwise (· < ·) := by
  unfold lowTold
  rw [List.pairwise_flatMap]
  refine ⟨fun l hl => ?_, ?_⟩
  · have hl' := List.mem_range.1 hl
    rw [List.pairwise_flatMap]
    refine ⟨fun d hd => sortN_rise (h.nodup l d (by omega) (List.mem_range.1 hd)), ?_⟩
    refine (List.pairwise_lt_range (n := 16)).imp_of_mem fun {a b} ha hb hab x hx y hy => ?_
    have h1 := (h.mem l a x (by omega) (List.mem_range.1 ha)).1 (sortN_mem.1 hx)
    have h2 := (h.mem l b y (by omega) (List.mem_range.1 hb)).1 (sortN_mem.1 hy)
    exact slot_order h1.2.1 h2.2.1 (by rw [h1.2.2, h2.2.2]; exact hab)
  · refine (List.pairwise_lt_range (n := top)).imp_of_mem fun {a b} ha hb hab x hx y hy => ?_
    have ha' := List.mem_range.1 ha
    have hb' := List.mem_range.1 hb
    obtain ⟨d, hd, hx⟩ := List.mem_flatMap.1 hx
    obtain ⟨d', hd', hy⟩ := List.mem_flatMap.1 hy
    have h1 := (h.mem a d x (by omega) (List.mem_range.1 hd)).1 (sortN_mem.1 hx)
    have h2 := (h.mem b d' y (by omega) (List.mem_range.1 hd')).1 (sortN_mem.1 hy)
    exact level_order h1.2.1 h2.2.1 (h.later y h2.1) hab

theorem mem_top (h : Wheel n m E S) (htn : top < n) {a k x : Nat} (hk : a + k ≤ 16) : x ∈ topTold S top t a k ↔ E x ∧ LevIs top m x ∧ a ≤ dig top x ∧ dig top x < a + k ∧ x ≤ t := by
  unfold topTold
  rw [List.mem_filter]
  simp only [decide_eq_true_eq]
  constructor
  · rintro ⟨hx, hle⟩
    obtain ⟨d, hd, hx⟩ := List.mem_flatMap.1 hx
    have hd' := List.mem_range'_1.1 hd
    have := (h.mem top d x htn (by omega)).1 (sortN_mem.1 hx)
    exact ⟨this.1, this.2.1, by omega, by omega, hle⟩
  · rintro ⟨he, hlev, h1, h2, h3⟩
    exact ⟨List.mem_flatMap.2 ⟨dig top x, List.mem_range'_1.2 ⟨h1, h2⟩, sortN_mem.2 ((h.mem top _ x htn (dig_lt top x)).2 ⟨he, hlev, rfl⟩)⟩, h3⟩

theorem top_rise (h : Wheel n m E S) (htn : top < n) {a k : Nat} (hk : a + k ≤ 16) : (topTold S top t a k).Pairwise (· < ·) := by
  unfold topTold
  refine List.Pairwise.filter _ ?_
  rw [List.pairwise_flatMap]
  refine ⟨fun d hd => sortN_rise (h.nodup top d htn (by have := List.mem_range'_1.1 hd; omega)), ?_⟩
  refine (List.pairwise_lt_range' (s := a) (n := k)).imp_of_mem fun {p q} hp hq hpq x hx y hy => ?_
  have hp' := List.mem_range'_1.1 hp
  have hq' := List.mem_range'_1.1 hq
  have h1 := (h.mem top p x htn (by omega)).1 (sortN_mem.1 hx)
  have h2 := (h.mem top q y htn (by omega)).1 (sortN_mem.1 hy)
  exact slot_order h1.2.1 h2.2.1 (by rw [h1.2.2, h2.2.2]; exact hpq)

/-- All that is over is told, rising, and nothing else. -/
theorem turn_told (h : Wheel n m E S) (hmt : m < t) (ht : LevIs top m t) (htn : top < n) :
    (lowTold S top ++ topTold S top t (dig top m) (dig top t + 1 - dig top m)).Pairwise (· < ·) ∧ ∀ x, x ∈ lowTold S top ++ topTold S top t (dig top m) (dig top t + 1 - dig top m) ↔ E x ∧ x ≤ t := by
  have hd := (ht.lt hmt).2
  have hk : dig top m + (dig top t + 1 - dig top m) ≤ 16 := by have := dig_lt top t; omega
  refine ⟨List.pairwise_append.2 ⟨low_rise h (by omega), top_rise h htn hk, fun x hx y hy => ?_⟩, fun x => ?_⟩
  · obtain ⟨h1, l, hl, h2⟩ := (mem_low h (by omega)).1 hx
    obtain ⟨h3, h4, -⟩ := (mem_top h htn hk).1 hy
    exact level_order h2 h4 (h.later y h3) hl
  · rw [List.mem_append, mem_low h (by omega), mem_top h htn hk]
    constructor
    · rintro (⟨h1, l, hl, h2⟩ | ⟨h1, -, -, -, h5⟩)
      · exact ⟨h1, Nat.le_of_lt (below_passed ht hmt h2 hl)⟩
      · exact ⟨h1, h5⟩
    · rintro ⟨h1, h2⟩
      obtain ⟨l, hl, hlev, -⟩ := h.at h1
      have hme := h.later x h1
      rcases Nat.lt_trichotomy l top with hlt | heq | hgt
      · exact .inl ⟨h1, l, hlt, hlev⟩
      · subst heq
        have h3 := behind_old hlev hme
        refine .inr ⟨h1, hlev, by omega, ?_, h2⟩
        rcases Nat.lt_or_ge (dig l t) (dig l x) with h4 | h4
        · have := (same_behind ht hlev h4).1; omega
        · omega
      · have := (above_stays ht hlev hme hgt).1
        omega

/-- What is left standing where it stands: the slots gone through are empty. -/
def cleared (S : Nat → Nat → List Nat) (top a b : Nat) : Nat → Nat → List Nat := fun l d => if l < top ∨ (l = top ∧ a ≤ d ∧ d ≤ b) then [] else S l d

theorem turn_rest (h : Wheel n m E S) (hmt : m < t) (ht : LevIs top m t) (htn : top < n) :
    Wheel n t (fun x => E x ∧ t < x ∧ ¬ (LevIs top m x ∧ dig top x = dig top t)) (cleared S top (dig top m) (dig top t)) := by
  have hup := agree_up ht.1 (show top + 1 ≤ n by omega)
  refine ⟨fun e he => he.2.1, fun e he => by rw [← hup]; exact h.high e he.1, fun l d e hl hd => ?_, fun l d hl hd => ?_⟩
  · unfold cleared
    split
    · rename_i hc
      constructor
      · intro hx; simp at hx
      · rintro ⟨⟨h1, h2, h3⟩, h4, h5⟩
        exfalso
        obtain ⟨k, hk, hlev, -⟩ := h.at h1
        have hme := h.later e h1
        rcases Nat.lt_trichotomy k top with hlt | heq | hgt
        · have := below_passed ht hmt hlev hlt; omega
        · subst heq
          have h6 := behind_old hlev hme
          rcases Nat.lt_trichotomy (dig k e) (dig k t) with h7 | h7 | h7
          · have := same_ahead ht hlev h7; omega
          · exact h3 ⟨hlev, h7⟩
          · have h8 := (same_behind ht hlev h7).2
            have := h8.uniq h4
            subst this
            rcases hc with hc | ⟨-, -, hc⟩
            · omega
            · rw [h5] at h7; omega
        · have h8 := (above_stays ht hlev hme hgt).2
          have := h8.uniq h4
          subst this
          rcases hc with hc | ⟨hc, -⟩ <;> omega
    · rename_i hc
      rw [h.mem l d e hl hd]
      constructor
      · rintro ⟨h1, h2, h3⟩
        have hme := h.later e h1
        rcases Nat.lt_trichotomy l top with hlt | heq | hgt
        · exact absurd (.inl hlt) hc
        · subst heq
          have h6 := behind_old h2 hme
          have h7 : dig l t < d := by
            rcases Nat.lt_or_ge (dig l t) d with h7 | h7
            · exact h7
            · exact absurd (.inr ⟨rfl, by omega, h7⟩) hc
          have h8 := same_behind ht h2 (by omega)
          exact ⟨⟨h1, h8.1, fun h9 => by omega⟩, h8.2, h3⟩
        · have h8 := above_stays ht h2 hme hgt
          refine ⟨⟨h1, h8.1, fun h9 => ?_⟩, h8.2, h3⟩
          have := h9.1.uniq h2
          omega
      · rintro ⟨⟨h1, h2, h3⟩, h4, h5⟩
        obtain ⟨k, hk, hlev, -⟩ := h.at h1
        have hme := h.later e h1
        rcases Nat.lt_trichotomy k top with hlt | heq | hgt
        · have := below_passed ht hmt hlev hlt; omega
        · subst heq
          rcases Nat.lt_trichotomy (dig k e) (dig k t) with h7 | h7 | h7
          · have := same_ahead ht hlev h7; omega
          · exact absurd ⟨hlev, h7⟩ h3
          · have h8 := (same_behind ht hlev h7).2
            have := h8.uniq h4
            subst this
            exact ⟨h1, hlev, h5⟩
        · have h8 := (above_stays ht hlev hme hgt).2
          have := h8.uniq h4
          subst this
          exact ⟨h1, hlev, h5⟩
  · unfold cleared
    split
    · simp
    · exact h.nodup l d hl hd
end
end Go.Proofs.YtnnoaolceeendaaGreatDoor.Wh
